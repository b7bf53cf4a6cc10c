/- Walks of package vars: what is amiss with variables. -/
import Derived.Test.YthkgjdhbibialaaDoorVm
import Derived.Test.YthkgjdhbibialaaDoorVn
import Derived.Test.YthkgjdhbibialaaDoorFe
namespace Go.Proofs.YthkgjdhbibialaaDoor
open Go.RowKit

/-- The sentinels that vars tells. -/
structure VaErrs (W : World) (E : Int → Option Addr) : Prop where
  e104 : ErrIn W E 104 0
  e105 : ErrIn W E 105 4
  e106 : ErrIn W E 106 2
  e109 : ErrIn W E 109 1
  e110 : ErrIn W E 110 3
theorem VaErrs.below {W w : World} {E : Int → Option Addr} (h : VaErrs W E) (hb : Below W.heap.size W w) : VaErrs w E :=
  ⟨h.e104.below hb, h.e105.below hb, h.e106.below hb, h.e109.below hb, h.e110.below hb⟩
def pos5 (c : Int) : Nat := if c = 104 then 0 else if c = 105 then 1 else if c = 106 then 2 else if c = 109 then 3 else if c = 110 then 4 else 1000
theorem vaErrs5 {W : World} {ads : List Addr} (hE : Errs W 104 [0, 4, 2, 1, 3] ads) : VaErrs W (errMap pos5 ads) where
  e104 := errIn_of hE 104 0 _ rfl rfl
  e105 := errIn_of hE 105 1 _ rfl rfl
  e106 := errIn_of hE 106 2 _ rfl rfl
  e109 := errIn_of hE 109 3 _ rfl rfl
  e110 := errIn_of hE 110 4 _ rfl rfl
theorem vaErrs16 {W : World} {ads : List Addr} (hE : Errs W 104 sents ads) : VaErrs W (errMap pos16 ads) where
  e104 := errIn_of hE 104 3 _ rfl rfl
  e105 := errIn_of hE 105 4 _ rfl rfl
  e106 := errIn_of hE 106 5 _ rfl rfl
  e109 := errIn_of hE 109 8 _ rfl rfl
  e110 := errIn_of hE 110 9 _ rfl rfl

/-- An error around a place, as a value: its block. -/
def atV (q : Nat) : Value := .iface 69 (.pointer (some ⟨q, 0, none⟩))
/-- What an error is seen as: none; a sentinel; one around a place. -/
inductive SeenF (E : Int → Option Addr) (w : World) : Value → Int → Option Nat → Prop
  | nil : SeenF E w .nilIface 0 none
  | bare (c : Int) (a : Addr) (h : E c = some a) (hc : c ≠ 0) : SeenF E w (errV a) c none
  | at_ (q : Nat) (c : Int) (a : Addr) (k : Nat) (h : E c = some a) (hc : c ≠ 0) (h0 : w.cell? ⟨q, 0, none⟩ = some (.int .i64 k)) (h1 : w.cell? ⟨q, 1, none⟩ = some (errV a)) : SeenF E w (atV q) c (some k)
theorem SeenF.below {E : Int → Option Addr} {w w' : World} {v : Value} {c : Int} {p : Option Nat} (h : SeenF E w v c p) {B : Nat} (hb : Below B w w') (hB : w.heap.size ≤ B) : SeenF E w' v c p := by
  cases h with
  | nil => exact .nil
  | bare c a h hc => exact .bare c a h hc
  | at_ q c a k h hc h0 h1 =>
    have hq : q < B := Nat.lt_of_lt_of_le (cell_lt h0) hB
    exact .at_ q c a k h hc ((hb.cell (p := ⟨q, 0, none⟩) hq).trans h0) ((hb.cell (p := ⟨q, 1, none⟩) hq).trans h1)
theorem SeenF.none_of {E : Int → Option Addr} {w : World} {v : Value} {p : Option Nat} (h : SeenF E w v 0 p) : v = .nilIface := by
  generalize hc : (0 : Int) = c at h
  cases h with
  | nil => rfl
  | bare c a h h0 => exact absurd hc.symm h0
  | at_ q c a k h h0 _ _ => exact absurd hc.symm h0
/-- One that is there: an interface value with a pointer in it. -/
theorem SeenF.some_of {E : Int → Option Addr} {w : World} {v : Value} {c : Int} {p : Option Nat} (h : SeenF E w v c p) (hc : c ≠ 0) : ∃ t a, v = .iface t (.pointer (some a)) := by
  cases h with
  | nil => exact absurd rfl hc
  | bare c a h h0 => exact ⟨_, _, rfl⟩
  | at_ q c a k h h0 _ _ => exact ⟨_, _, rfl⟩

set_option maxHeartbeats 800000 in
theorem typed_any (v : Vr.V) (w : World) :
    Calls Tryd.prog 55 #[v.inner] w fun e w' => e = .returned (.bool (Vr.typed v)) ∧ Below w.heap.size w w' := by
  obtain ⟨s0, kind, num, text⟩ := v
  unfold Vr.V.inner
  dsimp only
  have hk : kind = 1 ∨ kind = 2 ∨ kind = 3 ∨ ((kind == 1) = false ∧ (kind == 2) = false ∧ (kind == 3) = false) := by
    simp only [beq_eq_false_iff_ne]; omega
  by_cases h0 : text.size = 0
  · obtain rfl : text = ⟨#[]⟩ := by
      cases text with
      | mk d =>
        have : d.size = 0 := h0
        rw [Array.eq_empty_of_size_eq_zero this]
    have HZ : Hid ((⟨#[]⟩ : ByteArray).size = 0) := h0
    clear h0
    rcases hk with rfl | rfl | rfl | ⟨q1, q2, q3⟩
    all_goals
      go_enter Tryd.func55, Tryd.ntmps55
      go_wp2
    all_goals
      go_ret
      refine ⟨ret_bool ?_, (Below.refl _ _).alloc (Nat.le_refl _) _⟩
      have hz := HZ.out
      unfold Vr.typed
      simp only [hz, decide_true, Bool.true_and]
      first
        | rfl
        | (simp only [beq_eq_false_iff_ne] at *; simp [*]; done)
        | (rw [Bool.eq_iff_iff]; simp [*]; done)
  · have h1 : text.toList.isEmpty = false := by
      rw [ByteArray.toList_eq]
      cases text with
      | mk d =>
        have : ¬ d.size = 0 := h0
        simpa using this
    have h2 : (text.toList == []) = false := by
      rw [beq_eq_false_iff_ne]
      intro e
      rw [e] at h1
      cases h1
    have H0 := Lib.hid h0
    clear h0
    rcases hk with rfl | rfl | rfl | ⟨q1, q2, q3⟩
    all_goals
      go_enter Tryd.func55, Tryd.ntmps55
      go_wp2
    all_goals
      go_ret
      refine ⟨ret_bool ?_, (Below.refl _ _).alloc (Nat.le_refl _) _⟩
      have h0 := decide_eq_false H0.out
      unfold Vr.typed
      dsimp only
      rw [h0]
      first
        | rfl
        | (simp only [beq_eq_false_iff_ne] at *; simp [*]; done)
        | (rw [Bool.eq_iff_iff]; simp [*]; done)

set_option maxHeartbeats 1600000 in
theorem vfault_any {E : Int → Option Addr} {W w : World} (v : Vr.V) (hE : VaErrs W E) (hb : Below W.heap.size W w) (hv : Vr.InV v) :
    Calls Tryd.prog 39 #[v.val] w fun e w' => (∃ ev, e = .returned ev ∧ SeenBy E ev (Vr.fault v)) ∧ Below w.heap.size w w' := by
  have hvn := hv.n
  have hvt := hv.t
  have hT := typed_any v
  have hN := fun W => name_any v.name W hv.n
  have hb1 : Below W.heap.size W (w.alloc (.cells #[.string v.name, .int .i64 v.kind, .int .i64 v.num, .string v.text] 45)) := hb.alloc hb.size _
  have hB1 : Below w.heap.size w (w.alloc (.cells #[.string v.name, .int .i64 v.kind, .int .i64 v.num, .string v.text] 45)) := (Below.refl _ _).alloc (Nat.le_refl _) _
  have hE1 := hE.below hb1
  obtain ⟨a6, hk6, hg6⟩ := hE1.e106
  unfold errV at hg6
  have F1 := Lib.hid (@Vr.fault_name v)
  have F2 := Lib.hid (@Vr.fault_type v)
  have F3 := Lib.hid (@Vr.fault_long v)
  have F4 := Lib.hid (@Vr.fault_none v)
  cases hn : Vr.name v.name.data.toList with
  | false =>
    rw [F1.out hn]
    rw [hn] at hN
    clear F1 F2 F3 F4 hn hT
    unfold Vr.V.val
    go_enter Tryd.func39, Tryd.ntmps39
    go_wp2_with (go_at_call 14; refine (hN _).mono ?_; rintro e w' ⟨rfl, rfl⟩)
    go_ret
    exact ⟨⟨_, rfl, SeenBy.err 106 a6 hk6 (by decide)⟩, hB1⟩
  | true =>
    rw [hn] at hN
    cases ht : Vr.typed v with
    | false =>
      rw [F2.out hn ht]
      rw [ht] at hT
      clear F1 F2 F3 F4 hn ht
      unfold Vr.V.val
      unfold Vr.V.inner at hT
      go_enter Tryd.func39, Tryd.ntmps39
      go_wp2_with (go_at_call 14; refine (hN _).mono ?_; rintro e w' ⟨rfl, rfl⟩)
      refine (hT _).mono ?_
      rintro e w2 ⟨rfl, hb2⟩
      obtain ⟨a10, hk10, hg10⟩ := (hE1.below hb2).e110
      unfold errV at hg10
      go_wp2
      go_ret
      exact ⟨⟨_, rfl, SeenBy.err 110 a10 hk10 (by decide)⟩, hB1.trans (hb2.mono hB1.size)⟩
    | true =>
      rw [ht] at hT
      by_cases hl : 60 < v.text.size
      · rw [F3.out hn ht hl]
        have hl' : (60 : Int) < (v.text.size : Int) := by omega
        clear F1 F2 F3 F4 hn ht hl
        unfold Vr.V.val
        unfold Vr.V.inner at hT
        go_enter Tryd.func39, Tryd.ntmps39
        go_wp2_with (go_at_call 14; refine (hN _).mono ?_; rintro e w' ⟨rfl, rfl⟩)
        refine (hT _).mono ?_
        rintro e w2 ⟨rfl, hb2⟩
        obtain ⟨a5, hk5, hg5⟩ := (hE1.below hb2).e105
        unfold errV at hg5
        have c3 := hb2.cell (p := ⟨w.heap.size, 3, none⟩) (by simp)
        go_wp2
        go_ret
        exact ⟨⟨_, rfl, SeenBy.err 105 a5 hk5 (by decide)⟩, hB1.trans (hb2.mono hB1.size)⟩
      · rw [F4.out hn ht (by omega)]
        have hl' : ¬ (60 : Int) < (v.text.size : Int) := by omega
        clear F1 F2 F3 F4 hn ht hl
        unfold Vr.V.val
        unfold Vr.V.inner at hT
        go_enter Tryd.func39, Tryd.ntmps39
        go_wp2_with (go_at_call 14; refine (hN _).mono ?_; rintro e w' ⟨rfl, rfl⟩)
        refine (hT _).mono ?_
        rintro e w2 ⟨rfl, hb2⟩
        have c3 := hb2.cell (p := ⟨w.heap.size, 3, none⟩) (by simp)
        go_wp2
        go_ret
        exact ⟨⟨_, rfl, SeenBy.nil⟩, hB1.trans (hb2.mono hB1.size)⟩
end Go.Proofs.YthkgjdhbibialaaDoor
