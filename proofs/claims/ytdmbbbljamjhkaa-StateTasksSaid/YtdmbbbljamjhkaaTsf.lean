/- StateTasks: first; mathematics; what stays. -/
import Derived.Test.YtdmbbbljamjhkaaTse
import Derived.Test.YtdmbbbljamjhkaaLs
import Derived.Test.YtdmbbbljamjhkaaLd
namespace Go.Proofs.Ytdmbbbljamjhkaa
open Go.RowKit

namespace St
open Ls (T)
open Qu (QuC tκ Kp QS Owns nκ Asc ins outs out puts ins_last)
theorem new_any (w : World) : Calls Try.prog 5 #[] w fun e w' => e = .returned (.pointer (some ⟨w.heap.size, 0, none⟩)) ∧ w' = w.alloc (.cells #[.map none, .map none, .slice none 0 0, .slice none 0 0, .int .i64 1, .int .i64 1] 37) := by
  go_enter Try.func5, Try.ntmps5
  go_wp2
  go_ret
  exact ⟨rfl, rfl⟩
set_option maxHeartbeats 800000 in
theorem first_any (w : World) : Calls Try.prog 4 #[] w fun e w' => e = .returned (.bool true) ∧ Below w.heap.size w w' := by
  have hc : Cel (w.alloc (.cells #[.map none, .map none, .slice none 0 0, .slice none 0 0, .int .i64 1, .int .i64 1] 37)) w.heap.size newCells := Cel.lit w #[.map none, .map none, .slice none 0 0, .slice none 0 0, .int .i64 1, .int .i64 1] 37
  have hb : Below w.heap.size w (w.alloc (.cells #[.map none, .map none, .slice none 0 0, .slice none 0 0, .int .i64 1, .int .i64 1] 37)) := (Below.refl _ _).alloc (Nat.le_refl _) _
  have HB := Lib.hid hb
  have HY := Lib.hid (bytes_new w.heap.size _ hc)
  have c5 := hc.cell 5 _ rfl
  clear hc hb
  go_enter Try.func4, Try.ntmps4
  go_wp2_with fail
  refine (new_any w).mono ?_
  rintro e w1 ⟨rfl, hw1⟩
  rw [← hw1] at HY HB c5
  clear hw1
  go_wp2_with (go_at_call 11; refine HY.out.mono ?_; rintro e w2 ⟨A, m, c, rfl, ho, hb2⟩; obtain rfl : 6 = m := by (have := ho.len; simpa using this))
  go_ret
  exact ⟨by simp, HB.out.trans (hb2.mono HB.out.size)⟩
/-- The task that is put at step i. -/
def tk (os : List Int) (i : Nat) : T := ⟨(i : Int) + 1, os[i]! % 4 + 1, 1, 0, ⟨#[116]⟩, 0, ⟨#[]⟩, 0, 0, 0, 1, false⟩
def tks (os : List Int) (j : Nat) : List T := (List.range j).map (tk os)
section
variable {os : List Int} {j : Nat} {k : Int}
theorem tks_succ : tks os (j + 1) = tks os j ++ [tk os j] := by
  unfold tks
  rw [List.range_succ, List.map_append]
  rfl
theorem tks_len : (tks os j).length = j := by simp [tks]
theorem ins_tks : ins (tk os j) (tks os j) = tks os (j + 1) := by
  rw [ins_last, tks_succ]
  intro y hy
  obtain ⟨i, hi, rfl⟩ := List.mem_map.1 hy
  have := List.mem_range.1 hi
  show (i : Int) + 1 < (j : Int) + 1
  omega
/-- The IDs of those of an instance. -/
def idsOf (os : List Int) (k : Int) (j : Nat) : List Int := (ofL (tks os j) k).map T.id
theorem ids_same (h : os[j]! % 4 + 1 = k) : idsOf os k (j + 1) = idsOf os k j ++ [(j : Int) + 1] := by
  unfold idsOf ofL
  rw [tks_succ, List.filter_append, List.map_append]
  have : ofI (tk os j) k = true := decide_eq_true h
  rw [List.filter_cons, if_pos this]
  rfl
theorem ids_other (h : ¬ os[j]! % 4 + 1 = k) : idsOf os k (j + 1) = idsOf os k j := by
  unfold idsOf ofL
  rw [tks_succ, List.filter_append, List.map_append]
  have : ofI (tk os j) k = false := decide_eq_false h
  rw [List.filter_cons, this]
  simp
theorem ids_len : (idsOf os k j).length = (ofL (tks os j) k).length := List.length_map ..
theorem ids_le : (idsOf os k j).length ≤ j := by
  rw [ids_len]
  exact Nat.le_trans (List.length_filter_le _ _) (Nat.le_of_eq tks_len)
theorem ids_wf (hj : j ≤ 20) : ∀ y ∈ idsOf os k j, (Lit.int .i64 y).wf = true := by
  intro y hy
  obtain ⟨x, hx, rfl⟩ := List.mem_map.1 hy
  obtain ⟨hx, _⟩ := List.mem_filter.1 hx
  obtain ⟨i, hi, rfl⟩ := List.mem_map.1 hx
  have := List.mem_range.1 hi
  exact Qu.wf_of (show -9223372036854775808 ≤ (i : Int) + 1 by omega) (show (i : Int) + 1 ≤ 9223372036854775807 by omega)
end
theorem at_of {L : List T} {k : Int} {i : Nat} (hi : i < (ofL L k).length) : (ofL L k)[i]!.id = ((ofL L k).map T.id)[i]! ∧ (ofL L k)[i]!.ins = k := by
  rw [getElem!_pos (ofL L k) i hi, getElem!_pos ((ofL L k).map T.id) i (by simpa using hi), List.getElem_map]
  exact ⟨rfl, of_decide_eq_true (List.mem_filter.1 (List.getElem_mem hi)).2⟩
theorem outs_eq (ns : List Int) : ∀ l : List T, outs l ns = l.filter (fun x => !decide (x.id ∈ ns)) := by
  induction ns with
  | nil =>
    intro l
    show l = _
    rw [List.filter_eq_self.2]
    intro x _
    simp
  | cons n r ih =>
    intro l
    show outs (out n l) r = _
    rw [ih]
    unfold out
    rw [List.filter_filter]
    refine List.filter_congr fun x _ => ?_
    by_cases h1 : x.id = n <;> by_cases h2 : x.id ∈ r <;> simp [h1, h2]
theorem outs_of {L : List T} (hL : Asc L) (k : Int) : outs L ((ofL L k).map T.id) = L.filter (fun x => !ofI x k) := by
  rw [outs_eq]
  refine List.filter_congr fun x hx => ?_
  congr 1
  refine decide_eq_decide.2 ⟨fun h => ?_, fun h => ?_⟩
  · obtain ⟨y, hy, e⟩ := List.mem_map.1 h
    obtain ⟨h1, h2⟩ := List.mem_filter.1 hy
    obtain rfl := Qu.Asc.inj hL h1 hx e
    exact of_decide_eq_true h2
  · exact List.mem_map.2 ⟨x, List.mem_filter.2 ⟨hx, decide_eq_true h⟩, rfl⟩
theorem len_split (p : T → Bool) : ∀ L : List T, (L.filter p).length + (L.filter (fun x => !p x)).length = L.length
  | [] => rfl
  | z :: r => by
    have := len_split p r
    rw [List.filter_cons, List.filter_cons]
    cases p z <;> simp <;> omega
theorem of_rest (L : List T) (k : Int) : ofL (L.filter (fun x => !ofI x k)) k = [] := by
  unfold ofL
  rw [List.filter_filter, List.filter_eq_nil_iff]
  intro x _
  simp
/-- A row of one's own lies in no map. -/
theorem own_ne_map {α : Type} {κ : Cs α} {w : World} {base n c b : Nat} {e : TypeId} {A : Option Addr} {l : List α} {L : List T} (ho : OwnK κ w base e A n c l) (hm : Owns w b L) {a : Addr} (ha : A = some a) : b ≠ a.block := by
  rintro rfl
  obtain ⟨es, clock, hb, _⟩ := hm
  rcases ho.2.2 with ⟨hv, _⟩ | ⟨g, cap, cur, hv, _, hh, _⟩
  · injection hv with h1
    subst h1
    cases ha
  · injection hv with h1
    subst h1
    obtain rfl := Option.some.inj ha
    rw [hb] at hh
    cases hh
/-- What stands behind j rounds: the queue at q, the IDs in a row of one's own. -/
structure Inv (w : World) (q : Nat) (L : List T) (B : Option Addr) (n c : Nat) (ids : List Int) : Prop where
  own : OwnK nκ w (q + 1) 3 B n c ids
  qu : ∃ mm, QuC w q mm L ∧ ∀ b, mm = some b → q ≤ b
section
variable {w w' : World} {q n c : Nat} {L L' : List T} {B : Option Addr} {ids : List Int}
theorem Inv.below (h : Inv w q L B n c ids) (hb : Below w.heap.size w w') : Inv w' q L B n c ids := by
  obtain ⟨mm, h1, h2⟩ := h.qu
  exact ⟨h.own.below hb (Nat.le_refl _), mm, h1.below hb, h2⟩
/-- Put of one. -/
theorem Inv.put (h : Inv w q L B n c ids) (x : T) (h1 : -9223372036854775808 ≤ x.id) (h2 : x.id ≤ 9223372036854775807) (h3 : x.top.size ≤ 1000) (hl : L.length ≤ 1000) :
    Calls Try.prog 7 #[.pointer (some ⟨q, 0, none⟩), .slice (some ⟨w.heap.size, 0, none⟩) 1 1] (w.alloc (.cells x.cells.toArray 39)) fun e w' => e = .returned (.tuple #[]) ∧ Inv w' q (ins x L) B n c ids ∧ Below q w w' := by
  obtain ⟨mm, hq, hm⟩ := h.qu
  refine Calls.mono (Qu.putn_any q mm L [x] w hq (fun y hy => by rw [List.mem_singleton] at hy; subst hy; exact ⟨Qu.wf_of h1 h2, h3⟩) hl (by simp) x.cells.toArray (by simp) 1) ?_
  rintro e w' ⟨he, m', g1, g2, g3⟩
  have hql := hq.cel.lt
  refine ⟨he, ⟨g2.own h.own (fun a ha hs => ?_), m', g1, fun b hb => ?_⟩, g2.below (by omega) (fun i hi hs => ?_)⟩
  · have hbl := (h.own.block ha).1
    rcases hs with hs | hs
    · omega
    · rcases hq.own with ⟨h5, _⟩ | ⟨b, h5, ho⟩
      · rw [h5] at hs
        cases hs
      · rw [h5] at hs
        exact own_ne_map h.own ho ha (Option.some.inj hs)
  · rcases g3 with rfl | ⟨_, b', h5, h6⟩
    · exact hm b hb
    · rw [h5] at hb
      obtain rfl := Option.some.inj hb
      omega
  · rcases hs with hs | hs
    · omega
    · have := hm i hs
      omega
/-- An ID is put behind. -/
theorem Inv.grew {B' : Option Addr} {n' c' : Nat} {ids' : List Int} (h : Inv w q L B n c ids) (ho : OwnK nκ w' (q + 1) 3 B' n' c' ids') (hg : Grew w w' (.slice B n c) (.slice B' n' c')) : Inv w' q L B' n' c' ids' ∧ Below q w w' := by
  obtain ⟨mm, hq, hm⟩ := h.qu
  have hql := hq.cel.lt
  have hk : Kp (fun i => (Value.slice B n c).ownBlock = some i) w w' := Kp.of_grown hg.grown (fun i _ e => e)
  have hb : ∀ i, (Value.slice B n c).ownBlock = some i → ∃ a, B = some a ∧ a.block = i := fun i hi => by
    cases B with
    | none => cases hi
    | some a => exact ⟨a, rfl, Option.some.inj hi⟩
  refine ⟨⟨ho, mm, hk.quC hq (fun hs => ?_) (fun b hbb hs => ?_), hm⟩, hk.below (by omega) (fun i hi hs => ?_)⟩
  · obtain ⟨a, ha, hab⟩ := hb _ hs
    have := (h.own.block ha).1
    omega
  · obtain ⟨a, ha, hab⟩ := hb _ hs
    rcases hq.own with ⟨h5, _⟩ | ⟨b', h5, ho'⟩
    · rw [h5] at hbb
      cases hbb
    · rw [h5] at hbb
      obtain rfl := Option.some.inj hbb
      exact own_ne_map h.own ho' ha hab.symm
  · obtain ⟨a, ha, hab⟩ := hb _ hs
    have := (h.own.block ha).1
    omega
end
theorem info_int : (Try.prog.info? 3).map (fun i => (i.zero, i.size, i.bytes)) = some (some (.int .i64 0), 1, 8) := by kernel_rfl
end St
end Go.Proofs.Ytdmbbbljamjhkaa
