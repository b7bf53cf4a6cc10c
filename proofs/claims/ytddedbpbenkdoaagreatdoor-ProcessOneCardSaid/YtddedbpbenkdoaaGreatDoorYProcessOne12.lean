/- Mathematics of processes: what is owed nothing is fine. Walks of leaseholdmake: a number, a topic, a condition out of a number; the one picked. What the listed package-level variables give a walk: each sentinel error's variable holds a pointer of its own, no two the same; a table of integers holds its numbers. -/
import Derived.Test.YtddedbpbenkdoaaGreatDoorYProcessOne9
import Derived.Test.YtddedbpbenkdoaaGreatDoorYProcessOne10
import Derived.Test.YtddedbpbenkdoaaGreatDoorYProcessOne2
import Derived.Test.YtddedbpbenkdoaaGreatDoorRows
import Derived.ProofKit
import Derived.LaidLaws
import Derived.Stop.LaidErr
import Derived.Lib.LaidTab
import Derived.KernelRfl
namespace Go.Proofs.YtddedbpbenkdoaaGreatDoor
open Go.RowKit

namespace Pr
theorem cond_ok (k : Int) : ((bs (conds k)).size = 0 ∨ condBad (bs (conds k)) = 0) ∧ (bs (conds k)).size ≤ 80 := by
  unfold conds
  have h : (nmb k 12).toNat < 12 := by unfold nmb; omega
  have : ∀ j : Nat, j < 12 → ((bs condL[j]!).size = 0 ∨ condBad (bs condL[j]!) = 0) ∧ (bs condL[j]!).size ≤ 80 := by decide +kernel
  exact this _ h
theorem fl_mem {p : P} {j : Nat} (h : j < p.m) : p.flows[j]! ∈ p.flows := by
  have h' : j < p.flows.length := h
  rw [getElem!_pos p.flows j h']
  exact List.getElem_mem h'
theorem flow_fine {p : P} {f : Fl} (h : FlowOk p f) : flowBad p f = 0 := by
  obtain ⟨⟨a, b, h1, h2, h3, h4, h5⟩, h6⟩ := h
  unfold flowBad
  have hw : (within f.frm 0 (p.n - 1) && within f.til 0 (p.n - 1)) = true := by
    unfold within
    simp only [Bool.and_eq_true, decide_eq_true_eq]
    omega
  rw [hw, if_neg (by decide)]
  rcases h6 with h6 | ⟨h6, k, h7⟩
  · rw [h6, if_pos (by decide)]
  · by_cases h0 : f.cond.size = 0
    · rw [if_pos h0]
    · rw [if_neg h0, if_neg (by omega), h7]
      exact (cond_ok k).1.resolve_left (by rw [← h7]; exact h0)
theorem into_first {p : P} (h : ∀ f ∈ p.flows, FlowOk p f) : cI p 0 = 0 := by
  unfold cI
  rw [List.countP_eq_zero]
  intro f hf
  obtain ⟨a, b, h1, h2, h3, h4, h5⟩ := (h f hf).ends
  rw [h2]
  simp
  omega
theorem no_size : no.size = 0 := rfl
theorem txC_size : txC.size = 6 := rfl
theorem shape_fine {p : P} (h : Inv p (fun _ => 0) (fun _ => False)) {i : Nat} (hi : i < p.n) : shaped p i = true := by
  have hf := h.field i hi
  obtain ⟨o1, o2, o3, o4, o5, _, _⟩ := h.outs i hi
  have hs := h.start i hi
  unfold shaped
  simp only [ins_len, outs_len]
  generalize (p.nodes[i]!) = x at *
  by_cases h1 : x.kind = 1
  · have h0 := hs.1 h1
    subst h0
    have := o1 h1
    rw [into_first h.flow]
    simp [h1]
    omega
  · have h0 : i ≠ 0 := fun e => h1 (hs.2 e)
    have hin := h.ins i (by omega) hi (fun e => e)
    have e1 : (x.kind == 1) = false := by rw [beq_eq_false_iff_ne]; exact h1
    have e2 : (i == 0) = false := by rw [beq_eq_false_iff_ne]; exact h0
    rw [e1, e2, if_neg (by decide), if_neg h1]
    by_cases h2 : x.kind = 2 ∨ x.kind = 3
    · rw [if_pos h2]
      have h2' : x.kind = 2 := by rcases hf.kind with e | e | e | e | e | e <;> omega
      have := o2 h2'
      simp [hin, this]
    · rw [if_neg h2]
      by_cases h4 : x.kind = 4
      · rw [if_pos h4]
        rcases hf.caught with hc | ⟨_, hc⟩
        · have := o3 h4 hc
          have hb : cO p i = 1 := by omega
          rw [hc, no_size, hb]
          simp [hin]
        · have hne : x.caught ≠ no := by rw [hc]; exact txC_ne
          have := (o4 h4 hne).1
          have hb : cO p i = 2 := by omega
          have hsz : x.caught.size = 6 := by rw [hc]; rfl
          rw [hsz, hb]
          simp [hin]
      · rw [if_neg h4]
        have h5 : x.kind = 5 ∨ x.kind = 6 ∨ x.kind = 7 := by rcases hf.kind with e | e | e | e | e | e <;> omega
        rw [if_pos h5]
        have := o5 h5
        simp [hin]
        omega
theorem nm_txC : nm txC = true := by decide +kernel
theorem node_fine {p : P} (h : Inv p (fun _ => 0) (fun _ => False)) {i : Nat} (hi : i < p.n) : nodeBad p i = 0 := by
  have hf := h.field i hi
  have ho := h.outs i hi
  unfold nodeBad
  rw [shape_fine h hi]
  have hD : (p.nodes[i]!).dflt ≠ -1 → ((p.nodes[i]!).kind = 5 ∨ (p.nodes[i]!).kind = 7) ∧ has (outsL p i) (p.nodes[i]!).dflt = true := by
    intro hne
    rcases ho.dflt with e | ⟨hk, j, hj, e, hfr⟩
    · exact absurd e hne
    · exact ⟨hk, by rw [e]; exact has_of hj hfr⟩
  have hT : (p.nodes[i]!).caught ≠ no → has (outsL p i) (p.nodes[i]!).tgt = true := by
    intro hne
    have hk4 : (p.nodes[i]!).kind = 4 := by
      rcases hf.caught with e | ⟨e, _⟩
      · exact absurd e hne
      · exact e
    obtain ⟨_, j, hj, e, hfr⟩ := ho.wk1 hk4 hne
    rw [e]; exact has_of hj hfr
  have hto := ho.tgt
  simp only []
  generalize has (outsL p i) (p.nodes[i]!).dflt = bd at *
  generalize has (outsL p i) (p.nodes[i]!).tgt = bt at *
  generalize (p.nodes[i]!) = x at *
  clear ho
  have c3 : (x.kind == 3) = false := by rw [beq_eq_false_iff_ne]; rcases hf.kind with e | e | e | e | e | e <;> omega
  have hcs : x.code.size = 0 := by rw [hf.code]; rfl
  by_cases h4 : x.kind = 4
  · have e4 : (x.kind == 4) = true := by rw [beq_iff_eq]; exact h4
    obtain ⟨w1, w2, w3⟩ := hf.wk h4
    have hdf : x.dflt = -1 := by
      by_cases e : x.dflt = -1
      · exact e
      · have := (hD e).1; omega
    have e5 : (x.dflt == -1) = true := by rw [beq_iff_eq]; exact hdf
    rw [if_neg (by decide)]
    rcases hf.caught with hc | ⟨_, hc⟩
    · have et : (x.tgt == -1) = true := by rw [beq_iff_eq]; exact hto hc
      have hsz : x.caught.size = 0 := by rw [hc]; rfl
      simp [e4, w1, w2, w3, c3, hcs, hsz, e5, et]
    · have hne : x.caught ≠ no := by rw [hc]; exact txC_ne
      have hsz : x.caught.size = 6 := by rw [hc]; rfl
      have hnm : nm x.caught = true := by rw [hc]; exact nm_txC
      have := hT hne
      simp [e4, w1, w2, w3, c3, hcs, hsz, e5, hnm, this]
  · have e4 : (x.kind == 4) = false := by rw [beq_eq_false_iff_ne]; exact h4
    obtain ⟨w1, w2, w3⟩ := hf.nowk h4
    have hts : x.topic.size = 0 := by rw [w1]; rfl
    have hc : x.caught = no := by
      rcases hf.caught with e | ⟨e, _⟩
      · exact e
      · exact absurd e h4
    have hsz : x.caught.size = 0 := by rw [hc]; rfl
    have et : (x.tgt == -1) = true := by rw [beq_iff_eq]; exact hto hc
    rw [if_neg (by decide)]
    by_cases hdf : x.dflt = -1
    · have e5 : (x.dflt == -1) = true := by rw [beq_iff_eq]; exact hdf
      simp [e4, hts, w2, w3, c3, hcs, hsz, e5, et]
    · obtain ⟨hk, hb⟩ := hD hdf
      have eg : (x.kind == 5 || x.kind == 7) = true := by rw [Bool.or_eq_true, beq_iff_eq, beq_iff_eq]; exact hk
      simp [e4, hts, w2, w3, c3, hcs, hsz, et, eg, hb]
theorem check_of {p : P} (h : Inv p (fun _ => 0) (fun _ => False)) (h2 : 2 ≤ p.n) (h30 : p.n ≤ 30) (h60 : p.m ≤ 60) (hn : nm p.name = true) : check p = (0, none) := by
  unfold check
  rw [hn, if_neg (by decide)]
  have hw : (within p.n 2 30 && decide (p.m ≤ 60)) = true := by
    unfold within
    simp only [Bool.and_eq_true, decide_eq_true_eq]
    omega
  rw [hw, if_neg (by decide)]
  have f1 : (List.range p.m).find? (fun j => !(flowBad p p.flows[j]! == 0)) = none := by
    rw [List.find?_eq_none]
    intro j hj
    rw [flow_fine (h.flow _ (fl_mem (List.mem_range.1 hj)))]
    decide
  have f2 : (List.range p.n).find? (fun i => !(nodeBad p i == 0)) = none := by
    rw [List.find?_eq_none]
    intro i hi
    rw [node_fine h (List.mem_range.1 hi)]
    decide
  rw [f1]
  simp only []
  rw [f2]
theorem nm_p : nm (bs [112]) = true := by decide +kernel
theorem check_good (kinds more : List Int) (rings : Bool) : check (good kinds more rings) = (0, none) := by
  obtain ⟨h1, h2, h3, h4, h5⟩ := good_inv kinds more rings
  exact check_of h1 h2 (by omega) (by omega) (by rw [h5]; exact nm_p)
end Pr
end Go.Proofs.YtddedbpbenkdoaaGreatDoor
namespace Go.Proofs.YtddedbpbenkdoaaGreatDoor
open Go.RowKit

namespace Pr
theorem nmb_tmod (n b : Int) (hb : 0 < b) : nmb n b = if n.tmod b < 0 then n.tmod b + b else n.tmod b := by
  have e1 : n.tmod b < b := Int.tmod_lt_of_pos _ hb
  have e2 : -b < n.tmod b := by
    have := Int.lt_tmod_of_pos n hb
    omega
  have e3 : n = n.tmod b + b * n.tdiv b := by have := Int.tmod_add_mul_tdiv n b; omega
  have e4 : n % b = (n.tmod b) % b := by
    conv => lhs; rw [e3]
    exact Int.add_mul_emod_self_left _ _ _
  unfold nmb
  rw [e4]
  split
  · rw [← Int.add_emod_right]
    exact Int.emod_eq_of_lt (by omega) (by omega)
  · exact Int.emod_eq_of_lt (by omega) (by omega)
theorem nmb_nat (n b : Int) (hb : 0 < b) : ∃ k : Nat, nmb n b = k ∧ (k : Int) < b := by
  have h1 := Int.emod_nonneg n (show b ≠ 0 by omega)
  have h2 := Int.emod_lt_of_pos n hb
  exact ⟨(nmb n b).toNat, by unfold nmb; omega, by unfold nmb; omega⟩
set_option maxHeartbeats 400000 in
theorem mnumber_any (n b : Int) (w : World) (hb : 0 < b) (_h1 : -9223372036854775808 ≤ n) (_h2 : n ≤ 9223372036854775807) (h3 : b ≤ 4611686018427387904) :
    Calls Tryz.prog 12 #[.int .i64 n, .int .i64 b] w fun e w' => e = .returned (.int .i64 (nmb n b)) ∧ w = w' := by
  have hb0 : (b == 0) = false := by simp; omega
  have hv := nmb_tmod n b hb
  have e1 : n.tmod b < b := Int.tmod_lt_of_pos _ hb
  have e2 : -b < n.tmod b := by
    have := Int.lt_tmod_of_pos n hb
    omega
  by_cases hr : n.tmod b < 0
  · rw [if_pos hr] at hv
    rw [hv]
    clear hv
    go_enter Tryz.func12, Tryz.ntmps12
    go_wp2
    go_ret
    exact ⟨ret_int (by omega), rfl⟩
  · rw [if_neg hr] at hv
    rw [hv]
    clear hv
    go_enter Tryz.func12, Tryz.ntmps12
    go_wp2
    go_ret
    exact ⟨ret_int (by omega), rfl⟩
set_option maxHeartbeats 800000 in
theorem mtopics_any (n : Int) (w : World) (h1 : -9223372036854775808 ≤ n) (h2 : n ≤ 9223372036854775807) :
    Calls Tryz.prog 32 #[.int .i64 n] w fun e w' => e = .returned (.string (bs (topics n))) ∧ Below w.heap.size w w' := by
  have HNU := Lib.hid (fun W => mnumber_any n 3 W (by decide) h1 h2 (by decide))
  unfold topics
  obtain ⟨k, hk, hk3⟩ := nmb_nat n 3 (by decide)
  rw [hk] at HNU ⊢
  rw [Int.toNat_natCast]
  have HB := Lib.hid ((Below.refl w.heap.size w).alloc (Nat.le_refl _) (.cells (topicL.map fun s => Value.string ⟨s.toArray⟩).toArray 9))
  have hh := heap_alloc_new w (.cells (topicL.map fun s => Value.string ⟨s.toArray⟩).toArray 9)
  have c1 : (w.alloc (.cells (topicL.map fun s => Value.string ⟨s.toArray⟩).toArray 9)).cell? ⟨w.heap.size, k, none⟩ = some (.string ⟨(topicL[k]!).toArray⟩) := lit_texts hh (by show k < 3; omega)
  unfold bs
  generalize (⟨(topicL[k]!).toArray⟩ : ByteArray) = T at c1 ⊢
  have hk0 : (0 : Int) ≤ (k : Int) := by omega
  clear hh h1 h2 hk
  go_enter Tryz.func32, Tryz.ntmps32
  go_upto_region 2 with (fail)
  have e : topicL.map (fun s => Value.string ⟨s.toArray⟩) = [.string ⟨#[112, 97, 121]⟩, .string ⟨#[115, 104, 105, 112]⟩, .string ⟨#[97, 115, 107, 45, 49]⟩] := rfl
  rw [e] at HB c1
  generalize w.alloc _ = wz at *
  go_wp2_with fail
  refine (HNU.out _).mono ?_
  rintro e w2 ⟨rfl, rfl⟩
  go_wp2
  go_ret
  exact ⟨rfl, HB.out⟩
set_option maxHeartbeats 800000 in
theorem mconds_any (n : Int) (w : World) (h1 : -9223372036854775808 ≤ n) (h2 : n ≤ 9223372036854775807) :
    Calls Tryz.prog 33 #[.int .i64 n] w fun e w' => e = .returned (.string (bs (conds n))) ∧ Below w.heap.size w w' := by
  have HNU := Lib.hid (fun W => mnumber_any n 12 W (by decide) h1 h2 (by decide))
  unfold conds
  obtain ⟨k, hk, hk3⟩ := nmb_nat n 12 (by decide)
  rw [hk] at HNU ⊢
  rw [Int.toNat_natCast]
  have HB := Lib.hid ((Below.refl w.heap.size w).alloc (Nat.le_refl _) (.cells (condL.map fun s => Value.string ⟨s.toArray⟩).toArray 9))
  have hh := heap_alloc_new w (.cells (condL.map fun s => Value.string ⟨s.toArray⟩).toArray 9)
  have c1 : (w.alloc (.cells (condL.map fun s => Value.string ⟨s.toArray⟩).toArray 9)).cell? ⟨w.heap.size, k, none⟩ = some (.string ⟨(condL[k]!).toArray⟩) := lit_texts hh (by show k < 12; omega)
  unfold bs
  generalize (⟨(condL[k]!).toArray⟩ : ByteArray) = T at c1 ⊢
  have hk0 : (0 : Int) ≤ (k : Int) := by omega
  clear hh h1 h2 hk
  go_enter Tryz.func33, Tryz.ntmps33
  go_upto_region 2 with (fail)
  simp only [condL, List.map_cons, List.map_nil] at HB c1
  generalize w.alloc _ = wz at *
  go_wp2_with fail
  refine (HNU.out _).mono ?_
  rintro e w2 ⟨rfl, rfl⟩
  go_wp2
  go_ret
  exact ⟨rfl, HB.out⟩
end Pr
end Go.Proofs.YtddedbpbenkdoaaGreatDoor
namespace Go.Proofs.YtddedbpbenkdoaaGreatDoor
open Go.RowKit Go.ChangeShapes

/-- A sentinel's datum. -/
def errD (text : List UInt8) : DataW Unit := .iface "*errors.errorString" (.ptr (.agg [.lit (.string text)]))

/-- The variable g holds the sentinel whose text lies at a. -/
structure ErrAt (w : World) (tp : TypeId) (g : Nat) (a : Addr) : Prop where
  var : w.cell? ⟨g, 0, none⟩ = some (.iface tp (.pointer (some a)))
  row : ∃ c t, w.heap[a.block]? = some (.cells c t (0, 0))
  txt : ∃ s, w.cell? a = some (.string s)

theorem ErrAt.lt {w : World} {tp : TypeId} {g : Nat} {a : Addr} (h : ErrAt w tp g a) : g < w.heap.size := by
  have := h.var
  rcases Nat.lt_or_ge g w.heap.size with h' | h'
  · exact h'
  · simp [World.cell?, Array.getElem?_eq_none h'] at this
theorem ErrAt.blt {w : World} {tp : TypeId} {g : Nat} {a : Addr} (h : ErrAt w tp g a) : a.block < w.heap.size := by
  obtain ⟨c, t, h⟩ := h.row
  rcases Nat.lt_or_ge a.block w.heap.size with h' | h'
  · exact h'
  · simp [Array.getElem?_eq_none h'] at h
theorem ErrAt.below {w w' : World} {tp : TypeId} {g : Nat} {a : Addr} (h : ErrAt w tp g a) {B : Nat} (hb : Below B w w') (hB : w.heap.size ≤ B) : ErrAt w' tp g a :=
  ⟨(hb.cell (p := ⟨g, 0, none⟩) (Nat.lt_of_lt_of_le h.lt hB)).trans h.var, by
    obtain ⟨c, t, hr⟩ := h.row
    exact ⟨c, t, (hb.block a.block (Nat.lt_of_lt_of_le h.blt hB)).trans hr⟩, by
    obtain ⟨s, hs⟩ := h.txt
    exact ⟨s, (hb.cell (Nat.lt_of_lt_of_le h.blt hB)).trans hs⟩⟩

/-- The program's tables say of the error types what errors.New wants. -/
structure ErrTypes (P : Program) (ti tp te ts : TypeId) : Prop where
  iface : ∃ ms, P.underlying ti = some (.interface ms)
  uniq : ∀ u, P.typeName? 3 u = some "*errors.errorString" → u = tp
  ptr : P.underlying tp = some (.pointer te)
  str : ∃ f : Field, P.underlying te = some (.struct #[f]) ∧ f.type = ts ∧ f.offset = 0
  string : P.underlying ts = some .string
  ce : P.cellsOf te = 1
  cs : P.cellsOf ts = 1

/-- ALL THE SENTINELS OF A LIST AT ONCE: each has its pointer, no two the same. -/
theorem laid_errs {P : Program} {W : World} {ti tp te ts : TypeId} (T : ErrTypes P ti tp te ts) {rest : List (String × DataW Unit)} :
    ∀ {l : List (String × List UInt8)} {gs : List Nat}, gs.length = l.length → (∀ (i : Nat) (n : String) (x : List UInt8), l[i]? = some (n, x) → ∃ g, gs[i]? = some g ∧ P.globalNamed n = some g ∧ (P.globals[g]?).map (·.type) = some ti) →
    ∀ {ps : List MemPlace}, DataW.LaidVars P W (l.map (fun x => (x.1, errD x.2)) ++ rest) ps → ps.Nodup →
      (∀ b off, MemPlace.cell b off ∈ ps → (∃ c t, W.heap[b]? = some (.cells c t (0, 0))) ∧ ∀ u v, W.cell? ⟨b, off, none⟩ = some (.iface u v) → Value.okWide P W .any 0 u v) →
      ∃ ads : List Addr, ads.length = l.length ∧ ads.Nodup ∧ (∀ (i : Nat) (g : Nat) (a : Addr), gs[i]? = some g → ads[i]? = some a → ErrAt W tp g a) ∧ ∀ a ∈ ads, a.spot = none ∧ MemPlace.cell a.block a.off ∈ ps
  | [], [], _, _, _, _, _, _ => ⟨[], rfl, List.nodup_nil, (fun i g a h => by simp at h), fun a h => by cases h⟩
  | (n, x) :: l, g :: gs, hlen, hg, ps, hv, hnd, hrows => by
    obtain ⟨g0, t0, cs0, f0, p0, q0, hg0, ht0, hv0, hd0, hq, rfl⟩ := hv
    obtain ⟨g', hgg, hgn, hgt⟩ := hg 0 n x rfl
    obtain rfl : g = g' := by simpa using hgg
    obtain rfl := Option.some.inj (hgn.symm.trans hg0)
    obtain rfl := Option.some.inj (hgt.symm.trans ht0)
    obtain ⟨ms, hi⟩ := T.iface
    obtain ⟨f, hf1, hf2, hf3⟩ := T.str
    obtain ⟨l0⟩ := cs0
    have ok0 : ∀ u v, l0 = [.iface u v] → Value.okWide P W .any 0 u v := fun u v e => by
      subst e
      exact (hrows g 0 (by simp [MemPlace.row])).2 u v (by simpa using World.var?_cell hg0 hv0 0)
    obtain ⟨a0, s0, rfl, hc0, _, _, rfl⟩ := errorString_of_trod hi T.uniq T.ptr hf1 hf2 hf3 T.string T.ce T.cs hd0 ok0
    have hnd' : q0.Nodup := List.Nodup.sublist (List.sublist_append_right _ _) hnd
    obtain ⟨ads, hl, hn, hall, hin⟩ := laid_errs T (l := l) (gs := gs) (by simpa using hlen) (fun i n x h => hg (i + 1) n x (by simpa using h)) hq hnd' (fun b off h => hrows b off (List.mem_append_right _ h))
    have hs0 : a0.spot = none := World.cell?_spot hc0
    have hrow := (hrows a0.block a0.off (by simp [MemPlace.row])).1
    refine ⟨a0 :: ads, by simp [hl], List.nodup_cons.2 ⟨fun hm => ?_, hn⟩, ?_, ?_⟩
    · have h1 := (hin a0 hm).2
      exact (List.nodup_append.1 hnd).2.2 _ (by simp [MemPlace.row]) _ h1 rfl
    · intro i g1 a hgi hai
      cases i with
      | zero =>
        simp at hgi hai
        subst hgi; subst hai
        exact ⟨by simpa using World.var?_cell hg0 hv0 0, hrow, s0, hc0⟩
      | succ i => exact hall i g1 a (by simpa using hgi) (by simpa using hai)
    · intro a ha
      rcases List.mem_cons.1 ha with rfl | ha
      · exact ⟨hs0, by simp [MemPlace.row]⟩
      · exact ⟨(hin a ha).1, List.mem_append_right _ (hin a ha).2⟩

/-- The sentinels of the variables gs lie at ads, no two at one place. -/
structure Errs (w : World) (tp : TypeId) (gs : List Nat) (ads : List Addr) : Prop where
  len : ads.length = gs.length
  nodup : ads.Nodup
  all : ∀ (i : Nat) (g : Nat) (a : Addr), gs[i]? = some g → ads[i]? = some a → ErrAt w tp g a
theorem Errs.below {w w' : World} {tp : TypeId} {gs : List Nat} {ads : List Addr} (h : Errs w tp gs ads) {B : Nat} (hb : Below B w w') (hB : w.heap.size ≤ B) : Errs w' tp gs ads :=
  ⟨h.len, h.nodup, fun i g a h1 h2 => (h.all i g a h1 h2).below hb hB⟩
theorem errs_of_laid {P : Program} {W : World} {ti tp te ts : TypeId} (T : ErrTypes P ti tp te ts) {rest : List (String × DataW Unit)} (l : List (String × List UInt8)) (gs : List Nat) (hlen : gs.length = l.length)
    (hg : ((l.zip gs).all fun x => P.globalNamed x.1.1 == some x.2 && (P.globals[x.2]?).map (·.type) == some ti) = true) (h : laidMet P (l.map (fun x => (x.1, errD x.2)) ++ rest) W) : ∃ ads, Errs W tp gs ads := by
  obtain ⟨ps, hv, hnd, hrows⟩ := h
  obtain ⟨ads, h1, h2, h3, _⟩ := laid_errs T (l := l) (gs := gs) hlen (fun i n x hi => by
    have hlt := (List.getElem?_eq_some_iff.1 hi).1
    have hgi : gs[i]? = some gs[i] := List.getElem?_eq_getElem (by omega)
    have hm : ((n, x), gs[i]) ∈ l.zip gs := by
      refine List.mem_iff_getElem?.2 ⟨i, ?_⟩
      rw [List.getElem?_zip_eq_some]
      exact ⟨hi, hgi⟩
    have := List.all_eq_true.1 hg _ hm
    simp only [Bool.and_eq_true, beq_iff_eq] at this
    exact ⟨gs[i], hgi, this.1, this.2⟩) hv hnd hrows
  exact ⟨ads, by omega, h2, h3⟩
theorem rest_of_laid {P : Program} {W : World} : ∀ (l : List (String × DataW Unit)) {rest : List (String × DataW Unit)}, laidMet P (l ++ rest) W → laidMet P rest W
  | [], _, h => h
  | _ :: l, _, h => rest_of_laid l h.tail

theorem errTypes : ErrTypes Tryz.prog 33 183 185 9 where
  iface := ⟨_, Tryz.underlying33⟩
  uniq := fun u h => typeName_ptr_named (nm := "errors.errorString") (by rw [show "*" ++ "errors.errorString" = "*errors.errorString" by decide]; kernel_rfl) (by kernel_rfl) (by decide) u (by rw [show "*" ++ "errors.errorString" = "*errors.errorString" by decide]; exact h)
  ptr := Tryz.underlying183
  str := ⟨_, Tryz.underlying185, rfl, rfl⟩
  string := Tryz.underlying9
  ce := by kernel_rfl
  cs := by kernel_rfl

theorem own : ownKnob Tryz.prog.godebug = none := by kernel_rfl
theorem laidOut : laidOutB Tryz.prog = true := by kernel_rfl

/-- The size of the heap that the program begins with. -/
noncomputable def low : Nat := (World.holding Tryz.prog default ⟨#[], #[], []⟩).heap.size
end Go.Proofs.YtddedbpbenkdoaaGreatDoor
