/- Walks of package vars: the place of a variable; Get. -/
import Derived.Test.YtlmlhjepolefaaaGreatDoorYTokenChoices8
import Derived.Deep.LoopGhost
import Derived.Shelf.Abstract
namespace Go.Proofs.YtlmlhjepolefaaaGreatDoor
open Go.RowKit

namespace Vr
/-- The place of the first one that is so; -1: there is none. -/
def idx (p : V → Bool) (l : List V) : Int := match l.findIdx? p with
  | some k => k
  | none => -1
theorem idx_hit {p : V → Bool} {l : List V} {k : Nat} (hk : k < l.length) (h : p l[k]! = true) (h0 : ∀ j, j < k → p l[j]! = false) : idx p l = k := by
  unfold idx
  have : l.findIdx? p = some k := by
    rw [List.findIdx?_eq_some_iff_getElem]
    refine ⟨hk, by rw [← getElem!_pos l k hk]; exact h, fun j hj => ?_⟩
    rw [← getElem!_pos l j (by omega)]
    exact Bool.eq_false_iff.1 (h0 j hj)
  rw [this]
theorem idx_miss {p : V → Bool} {l : List V} (h0 : ∀ j, j < l.length → p l[j]! = false) : idx p l = -1 := by
  unfold idx
  have : l.findIdx? p = none := by
    rw [List.findIdx?_eq_none_iff]
    intro x hx
    obtain ⟨k, hk, rfl⟩ := List.mem_iff_getElem.1 hx
    rw [← getElem!_pos l k hk]
    exact h0 k hk
  rw [this]
theorem idx_cases (p : V → Bool) (l : List V) : (idx p l = -1 ∧ ∀ j, j < l.length → p l[j]! = false) ∨ ∃ k : Nat, idx p l = k ∧ k < l.length ∧ p l[k]! = true ∧ ∀ j, j < k → p l[j]! = false := by
  unfold idx
  cases h : l.findIdx? p with
  | none =>
    refine .inl ⟨rfl, fun j hj => ?_⟩
    rw [getElem!_pos l j hj]
    exact List.findIdx?_eq_none_iff.1 h _ (List.getElem_mem hj)
  | some k =>
    obtain ⟨hk, h1, h2⟩ := List.findIdx?_eq_some_iff_getElem.1 h
    refine .inr ⟨k, rfl, hk, by rw [getElem!_pos l k hk]; exact h1, fun j hj => ?_⟩
    rw [getElem!_pos l j (by omega)]
    simpa using h2 j hj
/-- Is it of that name? -/
def named (s : ByteArray) (v : V) : Bool := decide (v.name = s)
/-- Does it stand behind? -/
def behind (s : ByteArray) (v : V) : Bool := lss s v.name
/-- The value of the first one of that name. -/
def get (l : List V) (s : ByteArray) : V × Bool := if 0 ≤ idx (named s) l then (l[(idx (named s) l).toNat]!, true) else (default, false)
end Vr

section
variable {w : World}
set_option maxHeartbeats 1600000 in
theorem idx_any (g : Nat) (lb : Array Value) (p : Vr.V → Bool) (eg : ∀ args w, (callFunc g args).run Tryz.prog w = .ok (.enter g args) w) (A : Option Addr) (n c : Nat) (l : List Vr.V)
    (hp : ∀ (W : World) (v : Vr.V), Below w.heap.size w W → Calls Tryz.prog g (#[v.val] ++ lb) W fun e w' => e = .returned (.bool (p v)) ∧ Below w.heap.size w w') (hr : VRow w w.heap.size A n l) (hn : n ≤ 9223372036854775807) :
    Calls Tryz.prog 103 #[.slice A n c, .func (.func g) #[] lb] w fun e w' => e = .returned (.int .i64 (Vr.idx p l)) ∧ Below w.heap.size w w' := by
  have HL := Lib.hid hr.len
  go_enter Tryz.func103, Tryz.ntmps103
  go_wp2
  go_loopw [8] (fun i wr => ∃ k : Nat, k ≤ n ∧ i = .int .i64 k ∧ Below w.heap.size w wr ∧ Hid (∀ j, j < k → p l[j]! = false)) (fun i _ => n - (intOf i).toNat)
  case atStart => exact ⟨0, Nat.zero_le _, rfl, Below.refl _ _, fun j h => absurd h (Nat.not_lt_zero j)⟩
  case round =>
    obtain ⟨k, hk, rfl, hbw, hall⟩ := hrel
    by_cases hkn : k < n
    · obtain ⟨b, off, rfl, hbb, c0, c1, c2, c3⟩ := (hr.below hbw (Nat.le_refl _)).at_ hkn
      have hcall := hp wr l[k]! hbw
      unfold Vr.V.val at hcall
      have HH := Lib.hid (@Vr.idx_hit p l k (by rw [HL.out]; exact hkn))
      obtain ⟨z, hz⟩ : ∃ z, z = l[k]! := ⟨_, rfl⟩
      have HP := Lib.hid (congrArg p hz.symm)
      rw [← hz] at hcall c0 c1 c2 c3 HH
      clear hz
      clear hp
      cases hq : p z with
      | true =>
        rw [hq] at hcall
        have HQ := Lib.hid hq
        clear hq HP
        go_wp2_with (go_at_fn g; refine hcall.mono ?_; rintro e w' ⟨rfl, hb'⟩)
        go_ret
        exact ⟨ret_int (HH.out HQ.out hall.out).symm, hb'⟩
      | false =>
        rw [hq] at hcall
        have HQ : Hid (p l[k]! = false) := HP.out.trans hq
        clear hq HP
        go_wp2_with (go_at_fn g; refine hcall.mono ?_; rintro e w' ⟨rfl, hb'⟩)
        go_roundw
        case measure => simp [intOf]; omega
        case rel =>
          refine ⟨k + 1, by omega, by go_num, hb', fun j hj => ?_⟩
          by_cases e : j = k
          · subst e; exact HQ.out
          · exact hall.out j (by omega)
    · have : k = n := by omega
      subst this
      go_wp2
      go_ret
      exact ⟨ret_int (Vr.idx_miss (by rw [HL.out]; exact hall.out)).symm, hbw⟩

set_option maxHeartbeats 400000 in
theorem named_any (s : ByteArray) (B : Nat) (hB : B < w.heap.size) (hc : w.cell? ⟨B, 0, none⟩ = some (.string s)) (W : World) (v : Vr.V) (hb : Below w.heap.size w W) :
    Calls Tryz.prog 104 (#[v.val] ++ #[.pointer (some ⟨B, 0, none⟩)]) W fun e w' => e = .returned (.bool (Vr.named s v)) ∧ Below w.heap.size w w' := by
  have hc' : W.cell? ⟨B, 0, none⟩ = some (.string s) := (hb.cell (p := ⟨B, 0, none⟩) hB).trans hc
  have hBW : B < W.heap.size := Nat.lt_of_lt_of_le hB hb.size
  have hne : B ≠ W.heap.size := by omega
  unfold Vr.V.val
  show Calls Tryz.prog 104 #[_, _] W _
  go_enter Tryz.func104, Tryz.ntmps104
  go_wp2
  go_ret
  exact ⟨ret_bool (Vr.eq_of _ _), hb.alloc hb.size _⟩

set_option maxHeartbeats 800000 in
theorem place_any (A : Option Addr) (n c : Nat) (l : List Vr.V) (s : ByteArray) (hr : VRow w w.heap.size A n l) (hn : n ≤ 9223372036854775807) :
    Calls Tryz.prog 93 #[.slice A n c, .string s] w fun e w' => e = .returned (.int .i64 (Vr.idx (Vr.named s) l)) ∧ Below w.heap.size w w' := by
  have eg : ∀ args w, (callFunc 104 args).run Tryz.prog w = .ok (.enter 104 args) w := enters_of Tryz.func104 (by kernel_rfl) rfl
  have hb1 : Below w.heap.size w (w.alloc (.cells #[.string s] 9)) := (Below.refl _ _).alloc (Nat.le_refl _) _
  have hcon := idx_any (w := w.alloc (.cells #[.string s] 9)) 104 #[.pointer (some ⟨w.heap.size, 0, none⟩)] (Vr.named s) eg A n c l (named_any s w.heap.size (by simp) (by simp)) ((hr.below hb1 (Nat.le_refl _)).mono (by simp)) hn
  generalize Vr.idx (Vr.named s) l = r at *
  go_enter Tryz.func93, Tryz.ntmps93
  go_wp2_with (go_at_call 103; refine hcon.mono ?_; rintro e w' ⟨rfl, hb'⟩)
  go_ret
  exact ⟨rfl, hb1.trans (hb'.mono (by simp))⟩

/-- A value of the outcome of Get. -/
def getV (r : Vr.V × Bool) : Value := .tuple #[r.1.inner, .bool r.2]
set_option maxHeartbeats 800000 in
theorem get_any (A : Option Addr) (n c : Nat) (l : List Vr.V) (s : ByteArray) (hr : VRow w w.heap.size A n l) (hn : n ≤ 9223372036854775807) :
    Calls Tryz.prog 77 #[.slice A n c, .string s] w fun e w' => e = .returned (getV (Vr.get l s)) ∧ Below w.heap.size w w' := by
  have HL := Lib.hid hr.len
  have hb1 : Below w.heap.size w (w.alloc (.cells #[.int .i64 0, .int .i64 0, .string ⟨#[]⟩] 50)) := (Below.refl _ _).alloc (Nat.le_refl _) _
  have hcon := place_any (w := w.alloc (.cells #[.int .i64 0, .int .i64 0, .string ⟨#[]⟩] 50)) A n c l s ((hr.below hb1 (Nat.le_refl _)).mono (by simp)) hn
  have HG := Lib.hid (show Vr.get l s = _ from rfl)
  have hcs := Vr.idx_cases (Vr.named s) l
  unfold Vr.get at HG
  change Hid (Vr.get l s = _) at HG
  generalize Vr.get l s = R at *
  generalize Vr.idx (Vr.named s) l = r at *
  rcases hcs with ⟨rfl, _⟩ | ⟨k, rfl, hk, _⟩
  · go_enter Tryz.func77, Tryz.ntmps77
    go_wp2_with fail
    refine hcon.mono ?_
    rintro e w' ⟨rfl, hb'⟩
    obtain rfl : R = (default, false) := HG.out
    have hbw : Below w.heap.size w w' := hb1.trans (hb'.mono (by simp))
    obtain ⟨cc, cf⟩ := bcell hb'
    go_wp2
    refine bodyPost_ret (v := .tuple #[.agg #[.int .i64 0, .int .i64 0, .string ⟨#[]⟩], .bool false]) (by simp [results, Tryz.results77, go_sem, cc]) rfl ⟨rfl, ?_⟩
    exact ((hbw.setCell (Nat.le_refl _) _).setCell (Nat.le_refl _) _).setCell (Nat.le_refl _) _
  · obtain ⟨v, hv⟩ : ∃ v, v = l[k]! := ⟨_, rfl⟩
    obtain rfl : R = (v, true) := by
      have := HG.out
      rw [if_pos (by omega)] at this
      rw [this, hv]
      simp
    have HV := Lib.hid hv
    clear hv
    clear HG
    have hkn : k < n := by have := HL.out; omega
    go_enter Tryz.func77, Tryz.ntmps77
    go_wp2_with fail
    refine hcon.mono ?_
    rintro e w' ⟨rfl, hb'⟩
    have hbw : Below w.heap.size w w' := hb1.trans (hb'.mono (by simp))
    obtain ⟨b, off, rfl, hbb, c0, c1, c2, c3⟩ := hr.at_ hkn
    obtain ⟨cc, cf⟩ := bcell hb'
    have hkI : (k : Int) < (n : Int) := by omega
    have hk0 : (0 : Int) ≤ (k : Int) := by omega
    rw [← HV.out] at c0 c1 c2 c3
    go_wp2
    refine bodyPost_ret (v := .tuple #[.agg #[.int .i64 v.kind, .int .i64 v.num, .string v.text], .bool true]) (by simp [results, Tryz.results77, go_sem, cc]) rfl ⟨rfl, ?_⟩
    exact ((hbw.setCell (Nat.le_refl _) _).setCell (Nat.le_refl _) _).setCell (Nat.le_refl _) _
end
end Go.Proofs.YtlmlhjepolefaaaGreatDoor
