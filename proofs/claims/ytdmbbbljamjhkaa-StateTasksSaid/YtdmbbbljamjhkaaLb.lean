/- Package queue: what turns; Len, Get. -/
import Derived.Test.YtdmbbbljamjhkaaLa
import Derived.Deep.RegionLaw
import Derived.Deep.CutBlock
import Derived.Shelf.SlMaps.Clone
namespace Go.Proofs.Ytdmbbbljamjhkaa
open Go.RowKit

namespace Qu
open Ls (T)
section
variable {S S' : Nat → Prop} {w w' w'' : World}
theorem Kp.refl (S : Nat → Prop) (w : World) : Kp S w w := ⟨rfl, rfl, rfl, Nat.le_refl _, fun _ _ _ => rfl⟩
theorem Kp.trans (h : Kp S w w') (k : Kp S w' w'') : Kp S w w'' :=
  ⟨k.os.trans h.os, k.tape.trans h.tape, k.output.trans h.output, Nat.le_trans h.size k.size, fun i hi hs => (k.block i (Nat.lt_of_lt_of_le hi h.size) hs).trans (h.block i hi hs)⟩
/-- .. what the second one turns is new, or the first one may turn it. -/
theorem Kp.past (h : Kp S w w') (k : Kp S' w' w'') (hs : ∀ i, i < w.heap.size → S' i → S i) : Kp S w w'' :=
  ⟨k.os.trans h.os, k.tape.trans h.tape, k.output.trans h.output, Nat.le_trans h.size k.size, fun i hi hn => (k.block i (Nat.lt_of_lt_of_le hi h.size) (fun e => hn (hs i hi e))).trans (h.block i hi hn)⟩
theorem Kp.mono (h : Kp S w w') (hs : ∀ i, i < w.heap.size → S i → S' i) : Kp S' w w' := ⟨h.os, h.tape, h.output, h.size, fun i hi hn => h.block i hi (fun e => hn (hs i hi e))⟩
theorem Kp.of_below {B : Nat} (S : Nat → Prop) (h : Below B w w') (hB : w.heap.size ≤ B) : Kp S w w' := ⟨h.os, h.tape, h.output, h.size, fun i hi _ => h.block i (Nat.lt_of_lt_of_le hi hB)⟩
theorem Kp.of_grown {row : Option Nat} (h : w.grownBy w' row) (hs : ∀ i, i < w.heap.size → row = some i → S i) : Kp S w w' := ⟨h.os, h.tape, h.output, h.size, fun i hi hn => h.block i hi (fun e => hn (hs i hi e.symm))⟩
theorem Kp.below {B : Nat} (h : Kp S w w') (hB : B ≤ w.heap.size) (hs : ∀ i, i < B → ¬ S i) : Below B w w' := ⟨h.os, h.tape, h.output, h.size, fun i hi => h.block i (Nat.lt_of_lt_of_le hi hB) (hs i hi)⟩
theorem Kp.cell (h : Kp S w w') {a : Addr} (ha : a.block < w.heap.size) (hs : ¬ S a.block) : w'.cell? a = w.cell? a := World.cell?_of_block (h.block _ ha hs)
theorem Kp.cel {q : Nat} {cs : List Value} (h : Kp S w w') (hc : Cel w q cs) (hs : ¬ S q) : Cel w' q cs := by
  have hb := h.block q hc.lt hs
  exact ⟨fun i v hi => (World.cell?_of_block (a := ⟨q, i, none⟩) hb).trans (hc.cell i v hi), fun i hi => (World.frozen?_of_block (a := ⟨q, i, none⟩) hb).trans (hc.froz i hi), Nat.lt_of_lt_of_le hc.lt h.size⟩
theorem Kp.own {α : Type} {κ : Cs α} {base n c : Nat} {e : TypeId} {A : Option Addr} {l : List α} (h : Kp S w w') (ho : OwnK κ w base e A n c l) (hs : ∀ a, A = some a → ¬ S a.block) : OwnK κ w' base e A n c l := by
  refine ⟨ho.1, ho.2.1, ?_⟩
  rcases ho.2.2 with h0 | ⟨g, cap, cur, hv, hg, hh, hr⟩
  · exact .inl h0
  · injection hv with e1 e2 e3
    exact .inr ⟨g, cap, cur, by rw [e1, e3], hg, (h.block g (Array.getElem?_eq_some_iff.1 hh).1 (hs _ e1)).trans hh, hr⟩
theorem Kp.krow {α : Type} {κ : Cs α} {B n : Nat} {A : Option Addr} {l : List α} (h : Kp S w w') (ho : KRow κ w B A n l) (hB : B ≤ w.heap.size) (hs : ∀ a, A = some a → ¬ S a.block) : KRow κ w' B A n l := by
  refine ⟨ho.1, fun hn => ?_⟩
  obtain ⟨b, off, rfl, hb, hc⟩ := ho.2 hn
  exact ⟨b, off, rfl, hb, fun k v hk => (h.cell (a := ⟨b, off + k, none⟩) (Nat.lt_of_lt_of_le hb hB) (hs ⟨b, off, none⟩ rfl)).trans (hc k v hk)⟩
theorem Owns.lt {b : Nat} {l : List T} (h : Owns w b l) : b < w.heap.size := World.ownsMap.lt h
theorem Kp.owns {b : Nat} {l : List T} (h : Kp S w w') (ho : Owns w b l) (hs : ¬ S b) : Owns w' b l := by
  have hlt := Owns.lt ho
  obtain ⟨es, clock, hb, F, hsz, hD⟩ := ho
  exact ⟨es, clock, (h.block b hlt hs).trans hb, F, hsz, hD⟩
theorem Owns.ne {b q : Nat} {l : List T} {v : Value} {cs : List Value} (h : Owns w b l) (hc : Cel w q (v :: cs)) : b ≠ q := by
  rintro rfl
  obtain ⟨es, clock, hb, _⟩ := h
  have := hc.cell 0 v rfl
  simp [World.cell?, hb] at this
theorem Kp.quC {q : Nat} {m : Option Nat} {l : List T} (h : Kp S w w') (hq : QuC w q m l) (h1 : ¬ S q) (h2 : ∀ b, m = some b → ¬ S b) : QuC w' q m l :=
  ⟨h.cel hq.cel h1, hq.asc, hq.wf, hq.own.imp id fun ⟨b, hb, ho⟩ => ⟨b, hb, h.owns ho (h2 b hb)⟩⟩
theorem QuC.below {q : Nat} {m : Option Nat} {l : List T} (hq : QuC w q m l) (h : Below w.heap.size w w') : QuC w' q m l := (Kp.of_below (fun _ => False) h (Nat.le_refl _)).quC hq id (fun _ _ => id)
theorem QuC.mlt {q b : Nat} {m : Option Nat} {l : List T} (hq : QuC w q m l) (hm : m = some b) : b < w.heap.size ∧ b ≠ q := by
  rcases hq.own with ⟨h, _⟩ | ⟨b', h, ho⟩
  · rw [h] at hm
    cases hm
  · rw [h] at hm
    cases hm
    exact ⟨ho.lt, ho.ne hq.cel⟩
end
theorem run_makeMapH {P : Program} {t k e : TypeId} (hu : P.underlying t = some (.map k e)) (n : Int) (w : World) : (Instr.makeMap t (some (.int .i64 n))).run P w = .ok (.map (some w.heap.size)) (w.alloc (.map #[] 0)) := by
  simp [Instr.makeMap, run_underlying hu, asInt, asIntOf, Result.andThen]
set_option maxHeartbeats 1600000 in
theorem len_any (q : Nat) (m : Option Nat) (l : List T) (w : World) (hq : QuC w q m l) : Calls Try.prog 9 #[.pointer (some ⟨q, 0, none⟩)] w fun e w' => e = .returned (.int .i64 l.length) ∧ w = w' := by
  have c0 := hq.cel.cell 0 _ rfl
  rcases hq.own with ⟨rfl, rfl⟩ | ⟨b, rfl, ho⟩
  · have hl : ∀ ty, (Builtin.len_ #[28] ty #[.map none]).run Try.prog w = .ok (.int .i64 0) w := fun ty => Maps.len_nil Try.underlying28 ty
    clear hq
    go_enter Try.func9, Try.ntmps9
    go_wp2
    go_ret
    exact ⟨rfl, rfl⟩
  · have hs := size_mapD l
    clear hq
    unfold Owns at ho
    go_enter Try.func9, Try.ntmps9
    go_wp2_with (at_len; refine wpList_len_own _ rfl _ 28 rfl 3 39 Try.underlying28 taskR b l.length (mapD l) rfl ho ?_)
    go_ret
    exact ⟨rfl, rfl⟩
end Qu
end Go.Proofs.Ytdmbbbljamjhkaa
