/- Package queue: Soonest. -/
import Derived.Test.YtglmhpmiphkjlaaLf
namespace Go.Proofs.Ytglmhpmiphkjlaa
open Go.RowKit

namespace Qu
open Ls (T)
/-- The least time behind now at which one of r is due. -/
structure SoonR (r : List T) (now v : Int) (is : Bool) : Prop where
  some_ : is = true → ∃ x ∈ r, x.avail = true ∧ now < x.due ∧ x.due = v
  all_ : ∀ x ∈ r, x.avail = true → now < x.due → is = true ∧ v ≤ x.due
  none_ : is = false → v = 0
theorem SoonR.start (now : Int) : SoonR [] now 0 false := ⟨fun h => (by cases h), fun _ h => (by cases h), fun _ => rfl⟩
theorem SoonR.skip {r : List T} {now v : Int} {is : Bool} (h : SoonR r now v is) {x : T} (hx : x.avail = true → now < x.due → is = true ∧ v ≤ x.due) : SoonR (r ++ [x]) now v is :=
  ⟨fun hi => by obtain ⟨y, hy, h1⟩ := h.some_ hi; exact ⟨y, List.mem_append.2 (.inl hy), h1⟩, fun y hy h1 h2 => by
    rcases List.mem_append.1 hy with hy | hy
    · exact h.all_ y hy h1 h2
    · rw [List.mem_singleton] at hy
      subst hy
      exact hx h1 h2, h.none_⟩
theorem SoonR.take {r : List T} {now v : Int} {is : Bool} (h : SoonR r now v is) {x : T} (h1 : x.avail = true) (h2 : now < x.due) (h3 : is = false ∨ x.due < v) : SoonR (r ++ [x]) now x.due true := by
  refine ⟨fun _ => ⟨x, List.mem_append.2 (.inr (List.mem_singleton.2 rfl)), h1, h2, rfl⟩, fun y hy h4 h5 => ⟨rfl, ?_⟩, fun h => by cases h⟩
  rcases List.mem_append.1 hy with hy | hy
  · obtain ⟨h6, h7⟩ := h.all_ y hy h4 h5
    rcases h3 with h3 | h3
    · rw [h3] at h6
      cases h6
    · omega
  · rw [List.mem_singleton] at hy
    subst hy
    exact Int.le_refl _
theorem SoonR.perm {r s : List T} {now v : Int} {is : Bool} (h : SoonR r now v is) (hp : r.Perm s) : SoonR s now v is :=
  ⟨fun hi => by obtain ⟨y, hy, h1⟩ := h.some_ hi; exact ⟨y, hp.mem_iff.1 hy, h1⟩, fun y hy => h.all_ y (hp.mem_iff.2 hy), h.none_⟩
theorem SoonR.same {r : List T} {now v v' : Int} {is is' : Bool} (h : SoonR r now v is) (k : SoonR r now v' is') : v = v' ∧ is = is' := by
  cases is with
  | true =>
    obtain ⟨x, hx, h1, h2, h3⟩ := h.some_ rfl
    obtain ⟨k1, k2⟩ := k.all_ x hx h1 h2
    obtain ⟨y, hy, g1, g2, g3⟩ := k.some_ k1
    obtain ⟨_, k4⟩ := h.all_ y hy g1 g2
    exact ⟨by omega, k1.symm⟩
  | false =>
    have hv := h.none_ rfl
    cases is' with
    | true =>
      obtain ⟨y, hy, g1, g2, _⟩ := k.some_ rfl
      cases (h.all_ y hy g1 g2).1
    | false => exact ⟨by rw [hv, k.none_ rfl], rfl⟩
def SoonOut (w : World) (l : List T) (now : Int) (ts : List ByteArray) (e : Ending) (w' : World) : Prop :=
  (∃ v is, e = .returned (.tuple #[.int .i64 v, .bool is]) ∧ SoonR (l.filter fun x => asks ts x.top) now v is) ∧ Below w.heap.size w w'
set_option maxRecDepth 100000 in
set_option maxHeartbeats 3200000 in
theorem soon_any (q : Nat) (m : Option Nat) (l : List T) (now : Int) (A : Option Addr) (n c : Nat) (ts : List ByteArray) (w : World) (hq : QuC w q m l) (hx : KRow xκ w w.heap.size A n ts) (hts : ∀ s ∈ ts, s.size ≤ 1000) (hn : n ≤ 100000) (hl : l.length ≤ 100000) :
    Calls Try.prog 21 #[.pointer (some ⟨q, 0, none⟩), .int .i64 now, .slice A n c] w (SoonOut w l now ts) := by
  have HOF := Lib.hid (of_any q m l A n c ts w hq hx hts hn hl)
  have HL := Lib.hid hl
  clear hq hx hts hn hl
  go_enter Try.func21, Try.ntmps21
  go_wp2_with fail
  refine HOF.out.mono ?_
  rintro e w1 ⟨⟨A1, n1, c1, r, rfl, hown, hperm⟩, hb1⟩
  have HOWN := Lib.hid hown
  have HP := Lib.hid hperm
  have HB1 := Lib.hid hb1
  obtain rfl : r.length = n1 := hown.len
  have hrl : r.length ≤ 100000 := by
    have h1 := hperm.length_eq
    have h3 := List.length_filter_le (fun x : T => asks ts x.top) l
    have h4 := HL.out
    omega
  clear hown hperm hb1 HOF
  go_wp2_with fail
  go_loopw [8, 9, 18] (fun s8 s9 s18 wr => ∃ (j : Nat) (v : Int) (is : Bool), s8 = .int .i64 v ∧ s9 = .bool is ∧ s18 = .int .i64 j ∧ j ≤ r.length ∧ SoonR (r.take j) now v is ∧ Below w1.heap.size w1 wr) (fun _ _ s18 _ => r.length - (intOf s18).toNat)
  case atStart => exact ⟨0, 0, false, rfl, rfl, rfl, Nat.zero_le _, SoonR.start now, Below.refl _ _⟩
  case round =>
    obtain ⟨j, v, is, rfl, rfl, rfl, hj, hs, hb⟩ := hrel
    have HS := Lib.hid hs
    have HB := Lib.hid hb
    have hj0 : (0 : Int) ≤ (j : Int) := by omega
    clear hs hb
    by_cases hlt : j < r.length
    · have hI : (j : Int) < (r.length : Int) := by omega
      have hZ := HOWN.out.row.below HB.out (Nat.le_refl _)
      obtain ⟨bz, oz, rfl, _, _⟩ := hZ.2 (by omega)
      obtain ⟨t0, t1, t2, t3, t4, t5, t6, t7, t8, t9, t10, t11⟩ := t_at hZ hlt
      have HE : Hid (r.take (j + 1) = r.take j ++ [r[j]!]) := Lib.hid (by rw [List.take_succ_eq_append_getElem hlt, getElem!_pos r j hlt])
      clear hZ
      generalize r[j]! = x at *
      have hba : Below wr.heap.size wr (wr.alloc (.cells x.cells.toArray 38)) := (Below.refl _ _).alloc (Nat.le_refl _) _
      have hta : Cel (wr.alloc (.cells x.cells.toArray 38)) wr.heap.size x.cells := Cel.lit wr x.cells.toArray 38
      have HBa := Lib.hid (HB.out.trans (hba.mono HB.out.size))
      have HW := Lib.hid (fun w => Ls.when_any x w)
      obtain ⟨Av, hA⟩ : ∃ B, x.avail = B := ⟨_, rfl⟩
      obtain ⟨D, hD⟩ : ∃ D, x.due = D := ⟨_, rfl⟩
      have HA := Lib.hid hA
      have HD := Lib.hid hD
      rw [hA, hD] at HW
      clear hA hD
      unfold T.val at HW
      unfold T.cells at *
      obtain ⟨⟨k0, k1, k2, k3, k4, k5, k6, k7, k8, k9, k10, k11⟩, _⟩ := Ls.dz_facts hta
      clear hba hta
      go_wp2_with fail
      refine (HW.out _).mono ?_
      rintro e w2 ⟨rfl, hb2⟩
      have HB2 := Lib.hid (HBa.out.trans (hb2.mono HBa.out.size))
      clear hb2 k0 k1 k2 k3 k4 k5 k6 k7 k8 k9 k10 k11 t0 t1 t2 t3 t4 t5 t6 t7 t8 t9 t10 t11
      cases Av with
      | false =>
        have HN := Lib.hid (HS.out.skip (x := x) (fun h => by rw [HA.out] at h; cases h))
        rw [← HE.out] at HN
        go_wp2
        go_roundw
        case rel => exact ⟨j + 1, v, is, rfl, rfl, by go_num, by omega, HN.out, HB2.out⟩
        case measure =>
          simp only [intOf]
          omega
      | true =>
        by_cases h1 : now < D
        · cases is with
          | false =>
            have HN := Lib.hid (HS.out.take (x := x) HA.out (by rw [HD.out]; exact h1) (.inl rfl))
            rw [← HE.out, HD.out] at HN
            go_wp2
            go_roundw
            case rel => exact ⟨j + 1, D, true, rfl, rfl, by go_num, by omega, HN.out, HB2.out⟩
            case measure =>
              simp only [intOf]
              omega
          | true =>
            by_cases h2 : D < v
            · have HN := Lib.hid (HS.out.take (x := x) HA.out (by rw [HD.out]; exact h1) (.inr (by rw [HD.out]; exact h2)))
              rw [← HE.out, HD.out] at HN
              go_wp2
              go_roundw
              case rel => exact ⟨j + 1, D, true, rfl, rfl, by go_num, by omega, HN.out, HB2.out⟩
              case measure =>
                simp only [intOf]
                omega
            · have HN := Lib.hid (HS.out.skip (x := x) (fun _ _ => ⟨rfl, by rw [HD.out]; omega⟩))
              rw [← HE.out] at HN
              go_wp2
              go_roundw
              case rel => exact ⟨j + 1, v, true, rfl, rfl, by go_num, by omega, HN.out, HB2.out⟩
              case measure =>
                simp only [intOf]
                omega
        · have HN := Lib.hid (HS.out.skip (x := x) (fun _ h => by rw [HD.out] at h; omega))
          rw [← HE.out] at HN
          go_wp2
          go_roundw
          case rel => exact ⟨j + 1, v, is, rfl, rfl, by go_num, by omega, HN.out, HB2.out⟩
          case measure =>
            simp only [intOf]
            omega
    · obtain rfl : j = r.length := by omega
      have hI : ¬ (r.length : Int) < (r.length : Int) := by omega
      have HN := HS.out
      rw [List.take_length] at HN
      have HN2 := Lib.hid (HN.perm HP.out)
      clear HN
      go_wp2
      refine bodyPost_ret (results_tmp2 rfl _ _ _) rfl ?_
      exact ⟨⟨v, is, rfl, HN2.out⟩, HB1.out.trans (HB.out.mono HB1.out.size)⟩
end Qu
end Go.Proofs.Ytglmhpmiphkjlaa
