/- Package again: the workers of a book, sorted. -/
import Derived.Test.YtfpennnbicclfaaAgj
import Derived.Test.YtfpennnbicclfaaSi
import Derived.Sort.KeysCollected
import Derived.Shelf.AbstractIn
namespace Go.Proofs.Ytfpennnbicclfaa
open Go.RowKit Go.Maps Go.Sort Go.Shelf

namespace Ag
/-- Rows of texts. -/
def xκ : Cs ByteArray := ⟨1, fun s => [.string s], fun _ => rfl, fun s u hu => by
  rw [List.mem_singleton] at hu
  subst hu
  rfl⟩
theorem x_flat (l : List ByteArray) : l.flatMap xκ.cs = l.map Value.string := by
  induction l with
  | nil => rfl
  | cons y r ih =>
    rw [List.flatMap_cons, ih]
    rfl
theorem before_lt : ∀ (x y : List UInt8), bytesBefore x y = true → x < y
  | [], [], h => by cases h
  | [], _ :: _, _ => List.nil_lt_cons _ _
  | _ :: _, [], h => by cases h
  | a :: r, b :: s, h => by
    unfold bytesBefore at h
    rw [Bool.or_eq_true, Bool.and_eq_true, decide_eq_true_iff, beq_iff_eq] at h
    rw [List.cons_lt_cons_iff]
    rcases h with h | ⟨h1, h2⟩
    · exact .inl h
    · exact .inr ⟨h1, before_lt r s h2⟩
theorem sorted_keys {l : List Pg} (h : Asc Pg.wkr l) : (l.map fun p => p.wkr.data.toList).mergeSort (fun x y => decide (x ≤ y)) = l.map fun p => p.wkr.data.toList := by
  refine List.mergeSort_of_pairwise ?_
  rw [List.pairwise_map]
  exact h.imp fun {a b} hab => by
    have := before_lt _ _ hab
    simp only [decide_eq_true_eq]
    exact List.le_of_lt this
theorem enc_wkr (l : List Pg) : (l.map fun p => p.wkr.data.toList).map encStr = (l.map Pg.wkr).map Value.string := by
  rw [List.map_map, List.map_map]
  refine List.map_congr_left fun p _ => ?_
  show Value.string ⟨p.wkr.data.toList.toArray⟩ = Value.string p.wkr
  rw [Array.toArray_toList]
theorem mkeys_any (m : Option Nat) (w : World) : Calls Try.prog 23 #[.map m] w fun e w' => e = .returned (.func (.func 39) #[] #[.pointer (some ⟨w.heap.size, 0, none⟩)]) ∧ w' = w.alloc (.cells #[.map m] 25) := by
  go_enter Try.func23, Try.ntmps23
  go_wp2
  go_ret
  exact ⟨rfl, rfl⟩
/-- slices.Sort's two contracts, at the fence that asks nothing. -/
theorem sortsA (m : Nat) : AnyZ.SortsIn Try.prog sgSo_ren Fence.wide m :=
  ⟨fun blk off cap ss W hH hblk hsz => callsIn_wide.2 (AnyM.slices_Sort_string sgSt blk off cap ss W hH hblk hsz),
   fun p cap W => callsIn_wide.2 (AnyM.slices_Sort_string_none sgSt p cap W)⟩
set_option maxHeartbeats 1000000 in
theorem sorted_any (q : Nat) (m : Option Nat) (l : List Pg) (Bm : Nat) (w : World) (hb : BkC w q m l) (hBm : Bm < w.heap.size) (hm : w.cell? ⟨Bm, 0, none⟩ = some (.map m)) :
    Calls Try.prog 22 #[.func (.func 39) #[] #[.pointer (some ⟨Bm, 0, none⟩)]] w fun e w' => ∃ A c, e = .returned (.slice A l.length c) ∧ OwnK xκ w' w.heap.size 9 A l.length c (l.map Pg.wkr) ∧ Below w.heap.size w w' := by
  have hfew := hb.few
  rcases hb.own with ⟨rfl, rfl⟩ | ⟨b, rfl, ho⟩
  · have hseq : SeqGives Fence.wide 2 Try.prog 39 #[.pointer (some ⟨Bm, 0, none⟩)] encStr (fun ss : List (List UInt8) => ss = []) 0 w :=
      AnyZ.keys_gives_nil (ρ := sgKe_ren) { sgKe with } Fence.wide _ trivial rfl Bm w hBm hm
    have cS := AnyZ.sorted_in sgSo Fence.wide 5 trivial trivial trivial trivial rfl (by omega) (sortsA _) (enters_of Try.func38 (by kernel_rfl) rfl) 39 #[.pointer (some ⟨Bm, 0, none⟩)] trivial (enters_of Try.func39 (by kernel_rfl) rfl) _ 0 (Nat.zero_le _) (by omega) w hseq
    change CallsIn _ _ Try.prog 22 _ _ _ at cS
    refine (cS.calls (fun k d hd => by cases hd)).mono ?_
    rintro e w' ⟨v, ss, rfl, rfl, hrow, hnil, hb2⟩
    obtain rfl : v = .slice none 0 0 := hnil.2 rfl
    exact ⟨none, 0, rfl, ⟨by decide, World.ownsRow_nil _ _ _ _⟩, hb2⟩
  · have hsz := size_mapD l
    have hseq : SeqGives Fence.wide 2 Try.prog 39 #[.pointer (some ⟨Bm, 0, none⟩)] encStr (fun ss => ss.Perm (strKeys (mapD l))) (Maps.size (mapD l)) w :=
      AnyZ.keys_gives (ρ := sgKe_ren) { sgKe with } Fence.wide _ trivial rfl (by omega) Bm b l.length (mapD l) w hBm hm ho
    have cS := AnyZ.sorted_in sgSo Fence.wide 5 trivial trivial trivial trivial rfl (by omega) (sortsA _) (enters_of Try.func38 (by kernel_rfl) rfl) 39 #[.pointer (some ⟨Bm, 0, none⟩)] trivial (enters_of Try.func39 (by kernel_rfl) rfl) _ _ (by rw [hsz]; unfold maxLen; omega) (by rw [hsz]; omega) w hseq
    change CallsIn _ _ Try.prog 22 _ _ _ at cS
    refine (cS.calls (fun k d hd => by cases hd)).mono ?_
    rintro e w' ⟨v, ss, rfl, hS, hrow, hnil, hb2⟩
    rw [keys_mapD] at hS
    have hl : ss.length = l.length := by rw [hS.length_eq, List.length_map]
    rw [mergeSort_of_perm hS, sorted_keys hb.asc, enc_wkr, hl] at hrow
    have hrow2 : w'.ownsRow w.heap.size 9 1 v l.length ((l.map Pg.wkr).map Value.string) := hrow
    obtain ⟨A, c, rfl, _⟩ := own_form hrow2
    exact ⟨A, c, rfl, ⟨by decide, by rw [x_flat]; exact hrow2⟩, hb2⟩
end Ag
end Go.Proofs.Ytfpennnbicclfaa
