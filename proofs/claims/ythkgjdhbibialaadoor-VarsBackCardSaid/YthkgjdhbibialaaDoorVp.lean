/- Walks of package vars: Put. -/
import Derived.Test.YthkgjdhbibialaaDoorVh
import Derived.Test.YthkgjdhbibialaaDoorNt
import Derived.Test.YthkgjdhbibialaaDoorVq
namespace Go.Proofs.YthkgjdhbibialaaDoor
open Go.RowKit

namespace Vr
/-- A variable in bytes. -/
def put (v : V) : List UInt8 := (textsOf [v.name] ++ encs [v.kind, v.num]) ++ textsOf [v.text]
def puts (l : List V) : List UInt8 := l.flatMap put
theorem puts_take (l : List V) (k : Nat) (h : k < l.length) : puts (l.take (k + 1)) = puts (l.take k) ++ put l[k]! := by
  rw [List.take_succ_eq_append_getElem h, getElem!_pos l k h]
  simp only [puts, List.flatMap_append, List.flatMap_cons, List.flatMap_nil, List.append_nil]
/-- Its texts are short. -/
structure Small (v : V) : Prop where
  i : InV v
  n : v.name.size ≤ 1000
  t : v.text.size ≤ 1000
theorem put_len {v : V} (h : Small v) : (put v).length ≤ 2100 := by
  have h1 := textsOf_len 1000 (by omega) [v.name] (fun s hs => by obtain rfl := List.mem_singleton.1 hs; exact h.n)
  have h2 := textsOf_len 1000 (by omega) [v.text] (fun s hs => by obtain rfl := List.mem_singleton.1 hs; exact h.t)
  have h3 := encs_len [v.kind, v.num] (fun x hx => by
    simp only [List.mem_cons, List.not_mem_nil, or_false] at hx
    rcases hx with rfl | rfl
    · exact ⟨h.i.k0, h.i.k1⟩
    · exact ⟨h.i.n0, h.i.n1⟩)
  simp only [put, List.length_append, List.length_cons, List.length_nil] at h1 h2 h3 ⊢
  omega
theorem puts_len (l : List V) (h : ∀ v ∈ l, Small v) : (puts l).length ≤ 2100 * l.length := by
  induction l with
  | nil => simp [puts]
  | cons v l ih =>
    have h1 := put_len (h v (by simp))
    have h2 := ih fun x hx => h x (List.mem_cons_of_mem _ hx)
    simp only [puts, List.flatMap_cons, List.length_append, List.length_cons] at h2 ⊢
    omega
end Vr

section
variable {w : World}
set_option maxRecDepth 20000 in
set_option maxHeartbeats 4000000 in
theorem vput_any (A : Option Addr) (m c : Nat) (lb : List UInt8) (C : Option Addr) (n cc : Nat) (l : List Vr.V) (hb : Bytes w w.heap.size A m lb) (hA : A = none → m = 0 ∧ c = 0) (hm : m ≤ 1000000) (hr : VRow w w.heap.size C n l) (hn : n ≤ 1000) (hs : ∀ v ∈ l, Vr.Small v) :
    Calls Tryd.prog 27 #[.slice A m c, .slice C n cc] w fun e w' => ∃ A' m' c', e = .returned (.slice A' m' c') ∧ OwnBytes w' w.heap.size 5 A' m' c' (lb ++ encs [(n : Int)] ++ Vr.puts l) ∧ Below w.heap.size w w' := by
  obtain ⟨i0, hi0, hz0, hz1, hz2⟩ := info_parts info_u8
  have HL := Lib.hid hr.len
  have HS := Lib.hid hs
  have hbl := hb.len
  clear hs
  have hb1 : Below w.heap.size w (w.alloc (.cells #[.int .i64 (n : Int)] 2)) := (Below.refl _ _).alloc (Nat.le_refl _) _
  have hrow : Row (w.alloc (.cells #[.int .i64 (n : Int)] 2)) (w.heap.size + 1) (some ⟨w.heap.size, 0, none⟩) 1 ([(n : Int)].map (Value.int .i64)) := Row.lit w #[.int .i64 (n : Int)] 2
  have hP := put_any (w := w.alloc (.cells #[.int .i64 (n : Int)] 2)) A m c lb (some ⟨w.heap.size, 0, none⟩) 1 1 [(n : Int)] ((hb.below hb1 (Nat.le_refl _)).mono (by simp)) hA (by omega) (hrow.mono (by simp)) (by omega) (fun x hx => by obtain rfl := List.mem_singleton.1 hx; omega)
  have he1 := encs_len [(n : Int)] (fun x hx => by obtain rfl := List.mem_singleton.1 hx; omega)
  simp only [List.length_cons, List.length_nil] at he1
  go_enter Tryd.func27, Tryd.ntmps27
  go_wp2_with fail
  refine hP.mono ?_
  rintro e w1 ⟨A1, m1, c1, rfl, ho1, hb12⟩
  have hb2 : Below w.heap.size w w1 := hb1.trans (hb12.mono (by simp))
  have ho1' : OwnBytes w1 w.heap.size 5 A1 m1 c1 (lb ++ encs [(n : Int)]) := ho1.base (by simp)
  clear hP hrow hb1 hb12 ho1
  obtain ⟨hd, hhd⟩ : ∃ hd, hd = lb ++ encs [(n : Int)] := ⟨_, rfl⟩
  have hhl : hd.length ≤ 1000010 := by rw [hhd, List.length_append]; omega
  rw [← hhd] at ho1'
  have HHD := Lib.hid hhd
  clear hhd he1 hbl
  go_wp2_with fail
  go_loopw [5, 16] (fun o i wr => ∃ k : Nat, k ≤ n ∧ i = .int .i64 k ∧ ∃ A2 m2 c2, o = .slice A2 m2 c2 ∧ OwnBytes wr w.heap.size 5 A2 m2 c2 (hd ++ Vr.puts (l.take k)) ∧ Below w.heap.size w wr) (fun _ i _ => n - (intOf i).toNat)
  case atStart => exact ⟨0, Nat.zero_le _, rfl, A1, m1, c1, rfl, by simpa [Vr.puts] using ho1', hb2⟩
  case round =>
    obtain ⟨k, hk, rfl, A2, m2, c2, rfl, ho2, hbw⟩ := hrel
    by_cases hkn : k < n
    · have hkl : k < l.length := by rw [HL.out]; exact hkn
      obtain ⟨b, off, rfl, hbb, d0, d1, d2, d3⟩ := (hr.below hbw (Nat.le_refl _)).at_ hkn
      have HT := Lib.hid (Vr.puts_take l k hkl)
      have hsm := HS.out l[k]! (by rw [getElem!_pos l k hkl]; exact List.getElem_mem _)
      have hpl := Vr.puts_len (l.take k) (fun x hx => HS.out x (List.mem_of_mem_take hx))
      rw [List.length_take, HL.out, Nat.min_eq_left hk] at hpl
      have hl2 := ho2.len
      rw [List.length_append] at hl2
      have hm2 : m2 ≤ 4000000 := by omega
      generalize l[k]! = v at *
      clear hpl hl2
      have HSM := Lib.hid hsm
      obtain ⟨⟨_, _, vk0, vk1, vn0, vn1⟩, vns, vts⟩ := hsm
      have bx := Box.new wr v
      have hbv : Below wr.heap.size wr (wr.alloc (.cells #[.string v.name, .int .i64 v.kind, .int .i64 v.num, .string v.text] 45)) := (Below.refl _ _).alloc (Nat.le_refl _) _
      go_upto_region 5 with (fail)
      have hbw3 := hbw.trans (hbv.mono hbw.size)
      have ho3 := ho2.below hbv (Nat.le_refl _)
      have hpw : wr.heap.size < (wr.alloc (.cells #[.string v.name, .int .i64 v.kind, .int .i64 v.num, .string v.text] 45)).heap.size := by simp
      clear hbv ho2
      obtain ⟨p, hp⟩ : ∃ p, p = wr.heap.size := ⟨_, rfl⟩
      rw [← hp] at bx hpw
      rw [← hp]
      clear hp d0 d1 d2 d3
      generalize wr.alloc (.cells #[.string v.name, .int .i64 v.kind, .int .i64 v.num, .string v.text] 45) = w3 at *
      obtain ⟨x0, x1, x2, x3⟩ := bx
      have hb34 : Below w3.heap.size w3 (w3.alloc (.cells #[.string v.name] 9)) := (Below.refl _ _).alloc (Nat.le_refl _) _
      have hT1 := putText_any (w := w3.alloc (.cells #[.string v.name] 9)) 1000 (by omega) none 0 0 [] (some ⟨w3.heap.size, 0, none⟩) 1 1 [v.name] (Bytes.nil _ _ _) (fun _ => ⟨rfl, rfl⟩) (by omega) ((show Row (w3.alloc (.cells #[.string v.name] 9)) (w3.heap.size + 1) (some ⟨w3.heap.size, 0, none⟩) 1 ([v.name].map Value.string) from Row.lit w3 #[.string v.name] 9).mono (by simp)) (by omega) (fun s hs => by obtain rfl := List.mem_singleton.1 hs; exact vns)
      rw [List.nil_append] at hT1
      go_wp2_with fail
      refine hT1.mono ?_
      rintro e w5 ⟨A5, m5, c5, rfl, ho5, hb45⟩
      have hb35 : Below w3.heap.size w3 w5 := hb34.trans (hb45.mono (by simp))
      have hbw5 := hbw3.trans (hb35.mono hbw3.size)
      have hoo5 := ho3.below hb35 (Nat.le_refl _)
      have bx5 := (Box.mk x0 x1 x2 x3).below hb35
      have ho5' : OwnBytes w5 w3.heap.size 5 A5 m5 c5 (textsOf [v.name]) := ho5.base (by simp)
      have h5l := ho5.len
      have h5t := textsOf_len 1000 (by omega) [v.name] (fun s hs => by obtain rfl := List.mem_singleton.1 hs; exact vns)
      simp only [List.length_cons, List.length_nil] at h5t
      have hm5 : m5 ≤ 2000 := by omega
      clear hT1 hb34 hb45 ho5 hbw3 ho3 x0 x1 x2 x3 hb35 h5l h5t
      obtain ⟨x0, x1, x2, x3⟩ := bx5
      have hb56 : Below w5.heap.size w5 (w5.alloc (.cells #[.int .i64 v.kind, .int .i64 v.num] 2)) := (Below.refl _ _).alloc (Nat.le_refl _) _
      have hT2 := put_any (w := w5.alloc (.cells #[.int .i64 v.kind, .int .i64 v.num] 2)) A5 m5 c5 (textsOf [v.name]) (some ⟨w5.heap.size, 0, none⟩) 2 2 [v.kind, v.num] ((ho5'.bytes.below hb56 (Nat.le_refl _)).mono (by simp)) ho5'.nn (by omega) ((show Row (w5.alloc (.cells #[.int .i64 v.kind, .int .i64 v.num] 2)) (w5.heap.size + 1) (some ⟨w5.heap.size, 0, none⟩) 2 ([v.kind, v.num].map (Value.int .i64)) from Row.lit w5 #[.int .i64 v.kind, .int .i64 v.num] 2).mono (by simp)) (by omega) (fun s hs => by
        simp only [List.mem_cons, List.not_mem_nil, or_false] at hs
        rcases hs with rfl | rfl
        · exact ⟨vk0, vk1⟩
        · exact ⟨vn0, vn1⟩)
      go_wp2_with fail
      refine hT2.mono ?_
      rintro e w7 ⟨A7, m7, c7, rfl, ho7, hb67⟩
      have hb57 : Below w5.heap.size w5 w7 := hb56.trans (hb67.mono (by simp))
      have hbw7 := hbw5.trans (hb57.mono hbw5.size)
      have hoo7 := hoo5.below hb57 (Nat.le_refl _)
      have bx7 := (Box.mk x0 x1 x2 x3).below hb57
      have h7l := ho7.len
      have h7t := Vr.put_len HSM.out
      simp only [Vr.put, List.length_append] at h7t
      rw [List.length_append] at h7l
      have hm7 : m7 ≤ 2100 := by omega
      clear hT2 hb56 hb67 hbw5 hoo5 x0 x1 x2 x3 hb57 h7l h7t ho5'
      obtain ⟨x0, x1, x2, x3⟩ := bx7
      have hb78 : Below w7.heap.size w7 (w7.alloc (.cells #[.string v.text] 9)) := (Below.refl _ _).alloc (Nat.le_refl _) _
      have hT3 := putText_any (w := w7.alloc (.cells #[.string v.text] 9)) 1000 (by omega) A7 m7 c7 (textsOf [v.name] ++ encs [v.kind, v.num]) (some ⟨w7.heap.size, 0, none⟩) 1 1 [v.text] ((ho7.bytes.below hb78 (Nat.le_refl _)).mono (by simp)) ho7.nn (by omega) ((show Row (w7.alloc (.cells #[.string v.text] 9)) (w7.heap.size + 1) (some ⟨w7.heap.size, 0, none⟩) 1 ([v.text].map Value.string) from Row.lit w7 #[.string v.text] 9).mono (by simp)) (by omega) (fun s hs => by obtain rfl := List.mem_singleton.1 hs; exact vts)
      go_wp2_with fail
      refine hT3.mono ?_
      rintro e w9 ⟨A9, m9, c9, rfl, ho9, hb89⟩
      have hb79 : Below w7.heap.size w7 w9 := hb78.trans (hb89.mono (by simp))
      have hbw9 := hbw7.trans (hb79.mono hbw7.size)
      have hoo9 := hoo7.below hb79 (Nat.le_refl _)
      have ho9 : OwnBytes w9 (w7.alloc (.cells #[.string v.text] 9)).heap.size 5 A9 m9 c9 (Vr.put v) := ho9
      have h9l := ho9.len
      have h9t := Vr.put_len HSM.out
      have hm9 : m9 ≤ 2100 := by omega
      clear hT3 hb78 hb89 hbw7 hoo7 x0 x1 x2 x3 hb79 h9l h9t ho7
      go_wp2_with (at_builtin; refine append_row rfl (.tmp 33) (.tmp 39) _ rfl 5 i0 _ 1 1 Tryd.underlying48 hi0 hz0 hz1 hz2 rfl (by decide) w.heap.size _ m2 _ rfl hoo9 w9.heap.size _ m9 c9 _ rfl ho9.nn ho9.bytes (bv_one _) ?h7 ?h8 hbw9.size ?_)
      case h7 => unfold maxLen; omega
      case h8 => omega
      intro v4 w4 ho4 hg4 _
      obtain ⟨A4, c4, rfl, _⟩ := own_form ho4
      go_wp2
      go_roundw
      case measure => simp [intOf]; omega
      case rel =>
        refine ⟨k + 1, by omega, by go_num, A4, _, c4, rfl, ?_, hbw9.grown hg4 hbw9.size fun j hj => (hoo9.lt j hj).1⟩
        rw [HT.out]
        simpa only [OwnBytes, List.map_append, List.append_assoc] using ho4
    · have hkn' : l.take k = l := List.take_of_length_le (by rw [HL.out]; omega)
      rw [hkn'] at ho2
      go_wp2
      go_ret
      rw [← HHD.out]
      exact ⟨A2, m2, c2, rfl, ho2, hbw⟩
end
end Go.Proofs.YthkgjdhbibialaaDoor
