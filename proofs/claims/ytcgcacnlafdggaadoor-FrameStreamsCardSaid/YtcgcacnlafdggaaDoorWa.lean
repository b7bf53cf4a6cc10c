/- Walks of package crc: what Sum, More, Seal, Open do, whatever the bytes are. -/
import Derived.Test.YtcgcacnlafdggaaDoorProg
import Derived.Test.YtcgcacnlafdggaaDoorWords
namespace Go.Proofs.YtcgcacnlafdggaaDoor
open Go.RowKit

/-- The table of package crc, in the world. -/
def Steps (w : World) : Prop := ∀ s : BitVec 32, w.cell? ⟨4, lo s, none⟩ = some (.int .u32 (u (Crc.tab (lo s))))

attribute [local go_sem] u32_not u32_xor u32_and15 u32_shr4 u32_mod lo_lt lo_nonneg in
set_option maxHeartbeats 400000 in
theorem more_any (s : BitVec 32) (w : World) (A : Option Addr) (n c : Nat) (l : List UInt8) (B : Nat) (hr : Bytes w B A n l) (hn : n ≤ 140737488355328) (ht : Steps w) :
    Calls Tryd.prog 31 #[.int .u32 (u s), .slice A n c] w fun e w' => e = .returned (.int .u32 (u (Crc.more s l))) ∧ w = w' := by
  unfold Steps at ht
  go_enter Tryd.func31, Tryd.ntmps31
  go_wp2
  go_loop [5, 12] (fun r i => ∃ k : Nat, k ≤ n ∧ i = .int .i64 k ∧ r = .int .u32 (u (Crc.run (~~~ s) (l.take k)))) (fun _ i => n - (intOf i).toNat)
  case atStart => exact ⟨0, Nat.zero_le _, rfl, rfl⟩
  case round =>
    obtain ⟨k, hk, rfl, rfl⟩ := hrel
    by_cases hlt : k < n
    · obtain ⟨b, off, rfl, hb, hc⟩ := hr.at_ hlt
      have hk' : k < l.length := by rw [hr.len]; exact hlt
      have H := Lib.hid (run_take (~~~ s) l k hk')
      generalize Crc.run (~~~ s) (l.take k) = r at *
      generalize l[k]'hk' = x at *
      rw [← u_w8] at hc
      go_wp2
      go_round
      case rel => exact ⟨k + 1, by omega, by go_num, by rw [H.out, byte_steps]⟩
      case measure => simp [intOf]; omega
    · have hkn : l.take k = l := List.take_of_length_le (by rw [hr.len]; omega)
      rw [hkn]
      go_wp2
      go_ret
      exact ⟨rfl, rfl⟩

/-- One of the parts that Sum is given: a slice, and the bytes that it reads as. -/
structure Part where
  a : Option Addr
  n : Nat
  c : Nat
  l : List UInt8
def Part.val (p : Part) : Value := .slice p.a p.n p.c
def Part.ok (w : World) (B : Nat) (p : Part) : Prop := Bytes w B p.a p.n p.l ∧ p.n ≤ 140737488355328
def allOf (ps : List Part) : List UInt8 := ps.flatMap (·.l)

theorem sum_take (ps : List Part) (k : Nat) (h : k < ps.length) : Crc.sum (allOf (ps.take (k + 1))) = Crc.more (Crc.sum (allOf (ps.take k))) ps[k].l := by
  rw [List.take_succ_eq_append_getElem h]
  simp only [allOf, List.flatMap_append, List.flatMap_cons, List.flatMap_nil, List.append_nil, Crc.sum_append]
theorem sum_nil : u (Crc.sum []) = 0 := by decide

set_option maxHeartbeats 400000 in
theorem sum_any (ps : List Part) (w : World) (A : Option Addr) (n c : Nat) (B : Nat) (hr : Row w B A n (ps.map Part.val)) (hn : n ≤ 140737488355328) (hp : ∀ p ∈ ps, p.ok w B) (ht : Steps w) :
    Calls Tryd.prog 27 #[.slice A n c] w fun e w' => e = .returned (.int .u32 (u (Crc.sum (allOf ps)))) ∧ w = w' := by
  go_enter Tryd.func27, Tryd.ntmps27
  go_wp2
  go_loop [3, 8] (fun r i => ∃ k : Nat, k ≤ n ∧ i = .int .i64 k ∧ r = .int .u32 (u (Crc.sum (allOf (ps.take k))))) (fun _ i => n - (intOf i).toNat)
  case atStart => exact ⟨0, Nat.zero_le _, rfl, by simp [allOf, sum_nil]⟩
  case round =>
    obtain ⟨k, hk, rfl, rfl⟩ := hrel
    have hlen : ps.length = n := by simpa using hr.len
    by_cases hlt : k < n
    · have hk' : k < ps.length := by omega
      have H := Lib.hid (sum_take ps k hk')
      obtain ⟨b, off, rfl, hb, hc0⟩ := hr.2 (by omega)
      have hc : w.cell? ⟨b, off + k, none⟩ = some (.slice ps[k].a ps[k].n ps[k].c) := hc0 k _ (by simp [hk', Part.val])
      obtain ⟨hq, hq2⟩ := hp ps[k] (List.getElem_mem hk')
      clear hc0
      generalize Crc.sum (allOf (ps.take k)) = r at *
      generalize ps[k]'hk' = x at *
      have HT := Lib.hid ht
      clear ht
      go_wp2_with (go_at_call 31; refine (more_any r _ _ _ _ x.l B hq hq2 HT.out).mono ?_; rintro e w' ⟨rfl, rfl⟩)
      go_round
      case rel => exact ⟨k + 1, by omega, by go_num, by rw [H.out]⟩
      case measure => simp [intOf]; omega
    · have hkn : ps.take k = ps := List.take_of_length_le (by omega)
      rw [hkn]
      go_wp2
      go_ret
      exact ⟨rfl, rfl⟩

/-- Sum of one, of two: the parts as the caller has just laid them. -/
theorem sum_one (A : Option Addr) (n c : Nat) (l : List UInt8) (w : World) (hr : Bytes w w.heap.size A n l) (hn : n ≤ 140737488355328) (ht : Steps w) :
    Calls Tryd.prog 27 #[.slice (some ⟨w.heap.size, 0, none⟩) 1 1] (w.alloc (.cells #[.slice A n c] 25)) fun e w' => e = .returned (.int .u32 (u (Crc.sum l))) ∧ w.alloc (.cells #[.slice A n c] 25) = w' := by
  have hal : Below w.heap.size w (w.alloc (.cells #[.slice A n c] 25)) := (Below.refl _ _).alloc (Nat.le_refl _) _
  have e1 : l = allOf [⟨A, n, c, l⟩] := by simp [allOf]
  conv => arg 5; rw [e1]
  refine sum_any [⟨A, n, c, l⟩] _ _ 1 1 (w.heap.size + 1) (Row.lit w #[.slice A n c] 25) (by decide) ?_ (fun s => (hal.cell (p := ⟨4, lo s, none⟩) (by
    have := ht 0#32
    rcases Nat.lt_or_ge 4 w.heap.size with h' | h'
    · exact h'
    · simp [World.cell?, Array.getElem?_eq_none h'] at this)).trans (ht s))
  intro p hp
  obtain rfl := List.mem_singleton.1 hp
  exact ⟨(hr.below hal (Nat.le_refl _)).mono (by omega), hn⟩
theorem sum_two (A : Option Addr) (n c : Nat) (l : List UInt8) (A' : Option Addr) (n' c' : Nat) (l' : List UInt8) (w : World) (hr : Bytes w w.heap.size A n l) (hn : n ≤ 140737488355328) (hr' : Bytes w w.heap.size A' n' l') (hn' : n' ≤ 140737488355328) (ht : Steps w) :
    Calls Tryd.prog 27 #[.slice (some ⟨w.heap.size, 0, none⟩) 2 2] (w.alloc (.cells #[.slice A n c, .slice A' n' c'] 25)) fun e w' => e = .returned (.int .u32 (u (Crc.sum (l ++ l')))) ∧ w.alloc (.cells #[.slice A n c, .slice A' n' c'] 25) = w' := by
  have hal : Below w.heap.size w (w.alloc (.cells #[.slice A n c, .slice A' n' c'] 25)) := (Below.refl _ _).alloc (Nat.le_refl _) _
  have e1 : l ++ l' = allOf [⟨A, n, c, l⟩, ⟨A', n', c', l'⟩] := by simp [allOf]
  rw [e1]
  refine sum_any [⟨A, n, c, l⟩, ⟨A', n', c', l'⟩] _ _ 2 2 (w.heap.size + 1) (Row.lit w #[.slice A n c, .slice A' n' c'] 25) (by decide) ?_ (fun s => (hal.cell (p := ⟨4, lo s, none⟩) (by
    have := ht 0#32
    rcases Nat.lt_or_ge 4 w.heap.size with h' | h'
    · exact h'
    · simp [World.cell?, Array.getElem?_eq_none h'] at this)).trans (ht s))
  intro p hp
  rcases List.mem_cons.1 hp with rfl | hp
  · exact ⟨(hr.below hal (Nat.le_refl _)).mono (by omega), hn⟩
  · obtain rfl := List.mem_singleton.1 hp
    exact ⟨(hr'.below hal (Nat.le_refl _)).mono (by omega), hn'⟩

theorem four_bv (n : BitVec 32) : (Crc.four n).map bv = [.int .u8 (u n % (256 : Int)), .int .u8 (u n / (256 : Int) % (256 : Int)), .int .u8 (u n / (65536 : Int) % (256 : Int)), .int .u8 (u n / (16777216 : Int) % (256 : Int))] := by
  unfold Crc.four bv u
  simp only [List.map_cons, List.map_nil, UInt8.toNat_ofNat']
  rfl

theorem Steps.lt {w : World} (h : Steps w) : 4 < w.heap.size := by
  have := h 0#32
  rcases Nat.lt_or_ge 4 w.heap.size with h' | h'
  · exact h'
  · simp [World.cell?, Array.getElem?_eq_none h'] at this
theorem Steps.below {w w' : World} (h : Steps w) {B : Nat} (hb : Below B w w') (hB : w.heap.size ≤ B) : Steps w' :=
  fun s => (hb.cell (p := ⟨4, lo s, none⟩) (Nat.lt_of_lt_of_le h.lt hB)).trans (h s)
end Go.Proofs.YtcgcacnlafdggaaDoor
