/- Package state: the bytes of a new state; first. -/
import Derived.Test.YtdmbbbljamjhkaaTsb
import Derived.Test.YtdmbbbljamjhkaaTsc
import Derived.Test.YtdmbbbljamjhkaaSi
import Derived.Sort.KeysCollected
import Derived.Shelf.AbstractIn
import Derived.Deep.RegionHeld3
namespace Go.Proofs.Ytdmbbbljamjhkaa
open Go.RowKit Go.Maps Go.Sort Go.Shelf

namespace St
open Ls (T)
theorem mkeys_any (m : Option Nat) (w : World) : Calls Try.prog 39 #[.map m] w fun e w' => e = .returned (.func (.func 51) #[] #[.pointer (some ⟨w.heap.size, 0, none⟩)]) ∧ w' = w.alloc (.cells #[.map m] 31) := by
  go_enter Try.func39, Try.ntmps39
  go_wp2
  go_ret
  exact ⟨rfl, rfl⟩
theorem sortsA (m : Nat) : AnyZ.SortsIn Try.prog sgSq_ren Fence.wide m :=
  ⟨fun blk off cap ss W hH hblk hsz => callsIn_wide.2 (AnyM.slices_Sort_string sgSt blk off cap ss W hH hblk hsz),
   fun p cap W => callsIn_wide.2 (AnyM.slices_Sort_string_none sgSt p cap W)⟩
set_option maxHeartbeats 1000000 in
theorem sorted_none (Bm : Nat) (w : World) (hBm : Bm < w.heap.size) (hm : w.cell? ⟨Bm, 0, none⟩ = some (.map none)) :
    Calls Try.prog 38 #[.func (.func 51) #[] #[.pointer (some ⟨Bm, 0, none⟩)]] w fun e w' => e = .returned (.slice none 0 0) ∧ Below w.heap.size w w' := by
  have hseq : SeqGives Fence.wide 2 Try.prog 51 #[.pointer (some ⟨Bm, 0, none⟩)] encStr (fun ss : List (List UInt8) => ss = []) 0 w :=
    AnyZ.keys_gives_nil (ρ := sgKe_ren) { sgKe with } Fence.wide _ trivial rfl Bm w hBm hm
  have cS := AnyZ.sorted_in sgSq Fence.wide 5 trivial trivial trivial trivial rfl (by omega) (sortsA _) (enters_of Try.func50 (by kernel_rfl) rfl) 51 #[.pointer (some ⟨Bm, 0, none⟩)] trivial (enters_of Try.func51 (by kernel_rfl) rfl) _ 0 (Nat.zero_le _) (by omega) w hseq
  change CallsIn _ _ Try.prog 38 _ _ _ at cS
  refine (cS.calls (fun k d hd => by cases hd)).mono ?_
  rintro e w' ⟨v, ss, rfl, rfl, hrow, hnil, hb2⟩
  obtain rfl : v = .slice none 0 0 := hnil.2 rfl
  exact ⟨rfl, hb2⟩
set_option maxHeartbeats 800000 in
theorem ball_none (q : Nat) (w : World) (h : w.cell? ⟨q, 1, none⟩ = some (.map none)) : Calls Try.prog 23 #[.pointer (some ⟨q, 1, none⟩)] w fun e w' => e = .returned (.slice none 0 0) ∧ Below w.heap.size w w' := by
  have hba : Below w.heap.size w (w.alloc (.cells #[.map none] 31)) := (Below.refl _ _).alloc (Nat.le_refl _) _
  have HS := Lib.hid (sorted_none w.heap.size (w.alloc (.cells #[.map none] 31)) (by simp) ((Cel.lit w #[.map none] 31).cell 0 _ rfl))
  have HB := Lib.hid hba
  clear hba
  go_enter Try.func23, Try.ntmps23
  go_wp2_with fail
  refine (mkeys_any _ _).mono ?_
  rintro e w' ⟨rfl, rfl⟩
  go_wp2_with fail
  refine HS.out.mono ?_
  rintro e w2 ⟨rfl, hb2⟩
  have HB2 := Lib.hid (HB.out.trans (hb2.mono HB.out.size))
  clear hb2
  go_wp2
  refine wp_loop_rounds 1 ?_
  rw [rounds_succ]
  go_wp2
  go_ret
  exact ⟨rfl, HB2.out⟩
theorem own_nn {w : World} {base n c : Nat} {e : TypeId} {A : Option Addr} {l : List UInt8} (h : OwnBytes w base e A n c l) : A = none → n = 0 ∧ c = 0 := by
  obtain ⟨A', c', he, hA⟩ := own_form h
  injection he with h1 h2 h3
  subst h1; subst h3
  exact hA
set_option maxHeartbeats 1600000 in
theorem numbers_any (A : Option Addr) (n c : Nat) (ns : List Int) (w : World) (hr : Row w w.heap.size A n (ns.map (Value.int .i64))) (hn : n ≤ 1000000) (hb : ∀ x ∈ ns, -9223372036854775808 ≤ x ∧ x ≤ 9223372036854775807) :
    Calls Try.prog 25 #[.slice A n c] w fun e w' => ∃ A' m' c', e = .returned (.slice A' m' c') ∧ OwnBytes w' w.heap.size 5 A' m' c' (encs ns) ∧ Below w.heap.size w w' := by
  have hl : ns.length = n := by simpa using hr.len
  have HR := Lib.hid hr
  have HBD := Lib.hid hb
  clear hr hb
  go_enter Try.func25, Try.ntmps25
  go_wp2_with fail
  go_loopw [3, 8] (fun s3 s8 wr => ∃ (j : Nat) (A2 : Option Addr) (m2 c2 : Nat), j ≤ n ∧ s8 = .int .i64 j ∧ s3 = .slice A2 m2 c2 ∧ OwnBytes wr w.heap.size 5 A2 m2 c2 (encs (ns.take j)) ∧ Below w.heap.size w wr) (fun _ s8 _ => n - (intOf s8).toNat)
  case atStart => exact ⟨0, none, 0, 0, Nat.zero_le _, rfl, rfl, World.ownsRow_nil _ _ _ _, Below.refl _ _⟩
  case round =>
    obtain ⟨j, A2, m2, c2, hj, rfl, rfl, ho, hb⟩ := hrel
    have hj0 : (0 : Int) ≤ (j : Int) := by omega
    by_cases hlt : j < n
    · have hI : (j : Int) < (n : Int) := by omega
      obtain ⟨b, off, rfl, hbb, hc⟩ := (Row.below HR.out hb (Nat.le_refl _)).at_ hlt
      have hjl : j < ns.length := by omega
      rw [List.getElem_map] at hc
      have HT := Lib.hid (encs_take ns j hjl)
      have hbd := HBD.out _ (List.getElem_mem hjl)
      have hml := encs_len (ns.take j) (fun x hx => HBD.out x (mem_take hx))
      rw [ho.len, List.length_take] at hml
      have hwa : Below wr.heap.size wr (wr.alloc (.cells #[.int .i64 (ns[j]'hjl)] 2)) := (Below.refl _ _).alloc (Nat.le_refl _) _
      have hrx : Row (wr.alloc (.cells #[.int .i64 (ns[j]'hjl)] 2)) (wr.heap.size + 1) (some ⟨wr.heap.size, 0, none⟩) 1 ([ns[j]'hjl].map (Value.int .i64)) := Row.lit wr #[.int .i64 (ns[j]'hjl)] 2
      have hP := put_any A2 m2 c2 (encs (ns.take j)) (some ⟨wr.heap.size, 0, none⟩) 1 1 [ns[j]'hjl] (wr.alloc (.cells #[.int .i64 (ns[j]'hjl)] 2)) ((ho.bytes.below hwa (Nat.le_refl _)).mono hwa.size) (own_nn ho) (by omega) (hrx.mono (by simp)) (by decide) (by intro x hx; rw [List.mem_singleton] at hx; subst hx; exact hbd)
      have HP := Lib.hid hP
      have HB := Lib.hid (hb.trans (hwa.mono hb.size))
      have HOE := Lib.hid (show encs [ns[j]'hjl] = enc (zig (ns[j]'hjl)) by simp [encs])
      clear hP hwa hrx hml ho
      generalize ns[j]'hjl = x at *
      go_wp2_with (go_at_call 36; (with_reducible refine HP.out.mono ?_); rintro e w3 ⟨A3, m3, c3, rfl, ho3, hb3⟩)
      go_roundw
      case measure => simp [intOf]; omega
      case rel => exact ⟨j + 1, A3, m3, c3, by omega, by go_num, rfl, by rw [HT.out, ← HOE.out]; exact own_base ho3 HB.out.size, HB.out.trans (hb3.mono HB.out.size)⟩
    · obtain rfl : j = n := by omega
      have hI : ¬ (j : Int) < (j : Int) := by omega
      have he : ns.take j = ns := by rw [← hl, List.take_length]
      rw [he] at ho
      go_wp2
      go_ret
      exact ⟨A2, m2, c2, rfl, ho, hb⟩
end St
end Go.Proofs.Ytdmbbbljamjhkaa
