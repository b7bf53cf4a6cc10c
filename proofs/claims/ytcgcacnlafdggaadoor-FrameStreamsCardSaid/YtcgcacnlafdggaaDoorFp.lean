/- Walks of package frame: Put. -/
import Derived.Test.YtcgcacnlafdggaaDoorFs
namespace Go.Proofs.YtcgcacnlafdggaaDoor
open Go.RowKit

theorem head_bv (k : UInt8) (n : Nat) (hn : n ≤ 4000) : ([k, UInt8.ofNat n, UInt8.ofNat (n / 256)] : List UInt8).map bv = [.int .u8 (k.toNat : Int), .int .u8 ((n : Int) % 256), .int .u8 ((n : Int) / 256)] := by
  unfold bv
  simp only [List.map_cons, List.map_nil, UInt8.toNat_ofNat']
  rw [Nat.mod_eq_of_lt (show n / 256 < 2 ^ 8 by omega)]
  rfl
theorem start_list : (⟨#[76, 104, 1]⟩ : ByteArray).data.toList = Fr.marks := rfl

section
variable {E : Int → Option Addr} {w : World}
set_option maxHeartbeats 1600000 in
theorem fput_long (kd : UInt8) (A : Option Addr) (n c : Nat) (hE : FrErrs w E) (hn : 4000 < n) :
    Calls Tryd.prog 15 #[.int .u8 (kd.toNat : Int), .slice A n c] w fun e w' => ∃ ev, e = .returned (.tuple #[.slice none 0 0, ev]) ∧ SeenBy E ev 105 ∧ Below w.heap.size w w' := by
  obtain ⟨x, hka, hg⟩ := hE.e105
  go_enter Tryd.func15, Tryd.ntmps15
  go_wp2
  go_quiet (fail)
  go_wp2
  go_ret2
  exact ⟨_, rfl, SeenBy.err 105 x hka (by decide), below_drewN (Below.refl _ _) _⟩

set_option maxHeartbeats 1600000 in
theorem fput_any (kd : UInt8) (A : Option Addr) (n c : Nat) (l : List UInt8) (ht : Steps w) (hr : Bytes w w.heap.size A n l) (hA : A = none → n = 0 ∧ c = 0) (hn : n ≤ 4000) :
    Calls Tryd.prog 15 #[.int .u8 (kd.toNat : Int), .slice A n c] w fun e w' => ∃ A' c', e = .returned (.tuple #[.slice A' (n + 10) c', .nilIface]) ∧ OwnBytes w' w.heap.size 5 A' (n + 10) c' (Fr.put kd l) ∧ Below w.heap.size w w' := by
  obtain ⟨i0, hi0, hz0, hz1, hz2⟩ := info_parts info_u8
  have hl := hr.len
  go_enter Tryd.func15, Tryd.ntmps15
  go_wp2_with (at_make; refine wpList_make_own _ rfl _ _ 25 rfl w.heap.size 5 i0 _ 1 Tryd.underlying25 hi0 hz0 hz1 .i64 .i64 _ (n + 10) rfl rfl ?h1 ?h2 ?h3 ?h4 ?_)
  case h1 => omega
  case h2 => rw [hz2]; omega
  case h3 => unfold maxLen; omega
  case h4 => exact Nat.le_refl _
  intro w1 ho1 hg1
  have hb1 : Below w.heap.size w w1 := (Below.refl _ _).grown hg1 (Nat.le_refl _) (fun k hk => by cases hk)
  go_wp2_with (at_builtin; refine append_str rfl (.tmp 17) (.const (.string ⟨#[76, 104, 1]⟩)) 25 9 rfl 5 i0 Tryd.underlying25 Tryd.underlying9 hi0 hz0 hz1 hz2 w1 w.heap.size _ 0 [] rfl ho1 ⟨#[76, 104, 1]⟩ rfl ?h5 hb1.size ?_)
  case h5 => decide
  intro A2 c2 w2 ho2 hg2
  have hb2 : Below w.heap.size w w2 := hb1.grown hg2.grown hb1.size (fun k hk => (ho1.lt k hk).1)
  have ho2' : OwnBytes w2 w.heap.size 5 A2 3 c2 Fr.marks := ho2
  clear ho2
  have hs2 := hb2.size
  have hal : Below w.heap.size w (w2.alloc (.cells #[.int .u8 (kd.toNat : Int), .int .u8 ((n : Int) % 256), .int .u8 ((n : Int) / 256)] 5)) := hb2.alloc hs2 _
  have hrow := Row.lit w2 #[.int .u8 (kd.toNat : Int), .int .u8 ((n : Int) % 256), .int .u8 ((n : Int) / 256)] 5
  have hoa := World.ownsRow.alloc (show w2.ownsRow w.heap.size 5 1 (.slice A2 3 c2) 3 (Fr.marks.map bv) from ho2') (.cells #[.int .u8 (kd.toNat : Int), .int .u8 ((n : Int) % 256), .int .u8 ((n : Int) / 256)] 5)
  go_wp2_with (at_builtin; refine append_row rfl (.tmp 19) (.tmp 26) 25 rfl 5 i0 _ 1 1 Tryd.underlying25 hi0 hz0 hz1 hz2 rfl (by decide) w.heap.size _ 3 _ rfl hoa _ _ 3 3 _ rfl (fun h => by cases h) hrow ?h7 ?h8 (by decide) hal.size ?_)
  case h7 => exact ⟨rfl, rfl, rfl⟩
  case h8 => decide
  intro v3 w3 ho3 hg3 hat3
  obtain ⟨A3, c3, rfl, hA3⟩ := own_form ho3
  have hb3 : Below w.heap.size w w3 := hal.grown hg3 hal.size (fun j hj => (hoa.lt j hj).1)
  have ho3' : OwnBytes w3 w.heap.size 5 A3 6 c3 (Fr.head kd n) := by
    have e : Fr.head kd n = Fr.marks ++ [kd, UInt8.ofNat n, UInt8.ofNat (n / 256)] := rfl
    unfold OwnBytes
    rw [e, List.map_append, head_bv _ _ hn]
    exact ho3
  clear ho3 hg3 hat3 hrow hoa
  go_wp2_with (at_builtin; refine append_row rfl (.tmp 28) (.tmp 29) 25 rfl 5 i0 _ 1 1 Tryd.underlying25 hi0 hz0 hz1 hz2 rfl (by decide) w.heap.size _ 6 _ rfl ho3' w.heap.size A n c (l.map bv) rfl hA (hr.below hb3 (Nat.le_refl _)) (bv_one l) ?h10 ?h11 hb3.size ?_)
  case h10 => unfold maxLen; omega
  case h11 => omega
  intro v4 w4 ho4 hg4 hat4
  obtain ⟨A4, c4, rfl, hA4⟩ := own_form ho4
  have hb4 : Below w.heap.size w w4 := hb3.grown hg4 hb3.size (fun k hk => (ho3'.lt k hk).1)
  have ho4' : OwnBytes w4 w.heap.size 5 A4 (6 + n) c4 (Fr.head kd n ++ l) := by unfold OwnBytes; rw [List.map_append]; exact ho4
  clear ho4 hg4 hat4
  go_wp2_with fail
  refine (fsum_any A4 (6 + n) c4 _ _ ho4'.bytes (by omega) (ht.below hb4 (Nat.le_refl _))).mono ?_
  rintro e w5 ⟨A5, rfl, ho5, hb5⟩
  have hs4 := hb4.size
  have hb5' : Below w.heap.size w w5 := hb4.trans (hb5.mono hs4)
  go_wp2_with (at_builtin; refine append_row rfl (.tmp 31) (.tmp 33) 25 rfl 5 i0 _ 1 1 Tryd.underlying25 hi0 hz0 hz1 hz2 rfl (by decide) w.heap.size _ (6 + n) _ rfl (own_below ho4' hb5 (Nat.le_refl _)) w5.heap.size A5 4 4 _ rfl ?h12 ho5.bytes (bv_one _) ?h13 ?h14 hb5'.size ?_)
  case h12 => exact ho5.nn
  case h13 => unfold maxLen; omega
  case h14 => omega
  intro v6 w6 ho6 hg6 hat6
  obtain ⟨A6, c6, rfl, hA6⟩ := own_form ho6
  have hb6 : Below w.heap.size w w6 := hb5'.grown hg6 hb5'.size (fun k hk => (ho4'.lt k hk).1)
  have ho6' : OwnBytes w6 w.heap.size 5 A6 (n + 10) c6 (Fr.put kd l) := by
    unfold OwnBytes Fr.put
    rw [hl, List.map_append, show n + 10 = 6 + n + 4 from by omega]
    exact ho6
  clear ho6 hg6 hat6
  go_wp2
  go_ret2
  exact ⟨A6, c6, by rw [show n + 10 = 6 + n + 4 from by omega]; rfl, ho6', hb6⟩
end
end Go.Proofs.YtcgcacnlafdggaaDoor
