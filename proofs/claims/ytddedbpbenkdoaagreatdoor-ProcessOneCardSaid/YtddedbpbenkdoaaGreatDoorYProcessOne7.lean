/- slices.Contains of numbers; the program's led. The rows of package cond's walks: the words that it lists, the sentinels that it tells. The document's parser: one deeper; what a part of it keeps. From the reading of an argument that is a slice to what a walk is told of it. -/
import Derived.Test.YtddedbpbenkdoaaGreatDoorBaY
import Derived.Test.YtddedbpbenkdoaaGreatDoorYProcessOne1
import Derived.Test.YtddedbpbenkdoaaGreatDoorYProcessOne4
import Derived.Test.YtddedbpbenkdoaaGreatDoorYProcessOne12
import Derived.Lib.LaidTab
import Derived.Test.YtddedbpbenkdoaaGreatDoorDsY
import Derived.Test.YtddedbpbenkdoaaGreatDoorYProcessOne2
import Derived.Deep.Slices
import Derived.ChangeArms
import Derived.OpenShut
import Derived.ShutString
import Derived.ChangeOld
namespace Go.Proofs.YtddedbpbenkdoaaGreatDoor
open Go.RowKit

namespace Pr
set_option maxHeartbeats 800000 in
theorem index_any (A : Option Addr) (n c : Nat) (l : List Int) (B : Nat) (x : Int) (w : World) (hr : KRow iκ w B A n l) (hn : n ≤ 100000) :
    Calls Tryz.prog 71 #[.slice A n c, .int .i64 x] w fun e w' => (∃ k : Int, e = .returned (.int .i64 k) ∧ decide (k ≥ 0) = l.any fun y => y == x) ∧ w = w' := by
  have hl := hr.len (by decide)
  have HR := Lib.hid hr
  clear hr
  go_enter Tryz.func71, Tryz.ntmps71
  go_wp2_with fail
  go_loopw [8] (fun i wr => ∃ j : Nat, j ≤ n ∧ i = .int .i64 j ∧ (∀ t, t < j → l[t]! ≠ x) ∧ w = wr) (fun i _ => n - (intOf i).toNat)
  case atStart => exact ⟨0, Nat.zero_le _, rfl, fun t h => absurd h (Nat.not_lt_zero t), rfl⟩
  case round =>
    obtain ⟨j, hj, rfl, hall, rfl⟩ := hrel
    have hj0 : (0 : Int) ≤ (j : Int) := by omega
    by_cases hlt : j < n
    · obtain ⟨b, off, rfl, _, _⟩ := HR.out.2 (by omega)
      have c1 := iκ_cells HR.out hlt
      have hI : (j : Int) < (n : Int) := by omega
      by_cases hx : l[j]! = x
      · have hB : (l[j]! == x) = true := beq_iff_eq.2 hx
        have hany : (l.any fun y => y == x) = true := by
          rw [List.any_eq_true]
          exact ⟨l[j]!, by rw [getElem!_pos l j (by omega)]; exact List.getElem_mem _, hB⟩
        have HA := Lib.hid hany
        rw [hx] at c1
        clear hany hall hx hB
        go_wp2
        go_ret
        exact ⟨⟨j, rfl, by rw [HA.out]; exact decide_eq_true (by omega)⟩, rfl⟩
      · have hB : (x == l[j]!) = false := by rw [beq_eq_false_iff_ne]; exact fun e => hx e.symm
        have HALL := Lib.hid hall
        have HX := Lib.hid hx
        obtain ⟨y, hy⟩ : ∃ y, l[j]! = y := ⟨_, rfl⟩
        rw [hy] at hB c1
        clear hall hx hy
        go_wp2_with fail
        go_roundw
        case measure => simp [intOf]; omega
        case rel =>
          refine ⟨j + 1, by omega, by go_num, fun t ht => ?_, by first | trivial | rfl⟩
          by_cases e : t = j
          · subst e; exact HX.out
          · exact HALL.out t (by omega)
    · obtain rfl : j = n := by omega
      have hI : ¬ (j : Int) < (j : Int) := by omega
      have hany : (l.any fun y => y == x) = false := by
        rw [List.any_eq_false]
        intro y hy
        obtain ⟨t, ht, rfl⟩ := List.getElem_of_mem hy
        have := hall t (by omega)
        rw [getElem!_pos l t ht] at this
        simpa using this
      have HA := Lib.hid hany
      clear hany hall
      go_wp2
      go_ret
      exact ⟨⟨-1, rfl, by rw [HA.out]; rfl⟩, rfl⟩
set_option maxHeartbeats 800000 in
theorem contains_any (A : Option Addr) (n c : Nat) (l : List Nat) (B : Nat) (x : Int) (w : World) (hr : KRow iκ w B A n (l.map Int.ofNat)) (hn : n ≤ 100000) :
    Calls Tryz.prog 56 #[.slice A n c, .int .i64 x] w fun e w' => e = .returned (.bool (has l x)) ∧ w = w' := by
  have HI := Lib.hid (index_any A n c (l.map Int.ofNat) B x w hr hn)
  rw [has_map] at HI
  clear hr
  go_enter Tryz.func56, Tryz.ntmps56
  go_wp2_with fail
  refine HI.out.mono ?_
  rintro e wy ⟨⟨k, rfl, hk⟩, rfl⟩
  have HK := Lib.hid hk
  clear hk
  go_wp2
  all_goals
    go_ret
    refine ⟨ret_bool ?_, rfl⟩
    rw [← HK.out]
/-- What led asks. -/
def nb2 (x : Nd) (o : List Nat) : Bool := if (!(x.dflt == -1) && !((x.kind == 5 || x.kind == 7) && has o x.dflt)) = true then false else if (x.caught.size == 0) = true then x.tgt == -1 else has o x.tgt
theorem c102_nb (x : Nd) (o : List Nat) : c102 x o = !nb2 x o := by
  unfold c102 nb2
  have pos : decide (0 < x.caught.size) = !(x.caught.size == 0) := by
    by_cases h : x.caught.size = 0
    · rw [h]; rfl
    · have h1 : 0 < x.caught.size := by omega
      have h2 : (x.caught.size == 0) = false := by rw [beq_eq_false_iff_ne]; exact h
      rw [decide_eq_true h1, h2]; rfl
  rw [pos]
  generalize (x.kind == 5 || x.kind == 7) = g
  generalize has o x.dflt = h1
  generalize has o x.tgt = h2
  generalize (x.dflt == -1) = d
  generalize (x.tgt == -1) = t
  generalize (x.caught.size == 0) = z
  cases g <;> cases h1 <;> cases h2 <;> cases d <;> cases t <;> cases z <;> rfl
set_option maxHeartbeats 1600000 in
theorem led_any (x : Nd) (A : Option Addr) (n c : Nat) (o : List Nat) (w : World) (hr : KRow iκ w w.heap.size A n (o.map Int.ofNat)) (hn : n ≤ 100000) :
    Calls Tryz.prog 43 #[x.val, .slice A n c] w fun e w' => e = .returned (.bool (nb2 x o)) ∧ Below w.heap.size w w' := by
  have HX := Lib.hid (Cel.lit w #[.int .i64 x.kind, .string x.topic, .int .i64 x.prio, .int .i64 x.retr, .int .i64 x.dflt, .string x.code, .string x.caught, .int .i64 x.tgt] 36)
  have HB := Lib.hid ((Below.refl w.heap.size w).alloc (Nat.le_refl _) (.cells #[.int .i64 x.kind, .string x.topic, .int .i64 x.prio, .int .i64 x.retr, .int .i64 x.dflt, .string x.code, .string x.caught, .int .i64 x.tgt] 36))
  obtain ⟨R, hR⟩ : ∃ R, nb2 x o = R := ⟨_, rfl⟩
  rw [hR]
  have HRow := Lib.hid hr
  clear hr
  unfold nb2 at hR
  have HC := Lib.hid (fun W => chooses_any x W)
  obtain ⟨g, hg⟩ : ∃ g, (x.kind == 5 || x.kind == 7) = g := ⟨_, rfl⟩
  rw [hg] at HC hR
  rw [← emp_iff] at hR
  obtain ⟨h1, hh1⟩ : ∃ h, has o x.dflt = h := ⟨_, rfl⟩
  obtain ⟨h2, hh2⟩ : ∃ h, has o x.tgt = h := ⟨_, rfl⟩
  rw [hh1, hh2] at hR
  have H1 := Lib.hid (fun W hW => contains_any A n c o w.heap.size x.dflt W (HRow.out.below (w' := W) hW (Nat.le_refl _)) hn)
  have H2 := Lib.hid (fun W hW => contains_any A n c o w.heap.size x.tgt W (HRow.out.below (w' := W) hW (Nat.le_refl _)) hn)
  rw [hh1] at H1
  rw [hh2] at H2
  clear hg hh1 hh2
  obtain ⟨z, hz⟩ : ∃ z, x.caught.toList.isEmpty = z := ⟨_, rfl⟩
  rw [hz] at hR
  have HZ := Lib.hid hz
  clear hz
  unfold Nd.val at HC ⊢
  go_enter Tryz.func43, Tryz.ntmps43
  go_upto_region 1 with (fail)
  generalize w.alloc _ = wb at *
  obtain ⟨x0, x1, x2, x3, x4, x5, x6, x7⟩ := nd_facts HX.out
  by_cases hd : x.dflt = -1
  · have hdB : (x.dflt == -1) = true := beq_iff_eq.2 hd
    rw [hdB] at hR
    simp only [Bool.not_true, Bool.false_and, Bool.false_eq_true, if_false] at hR
    clear hdB
    have hz := HZ.out
    cases z with
    | true =>
      obtain rfl : (x.tgt == -1) = R := by rw [← hR]; rfl
      clear hR
      go_wp2
      all_goals
        go_ret
        exact ⟨rfl, HB.out⟩
    | false =>
      obtain rfl : h2 = R := by rw [← hR]; rfl
      clear hR
      go_wp2_with fail
      refine (H2.out _ HB.out).mono ?_
      rintro e wy ⟨rfl, rfl⟩
      go_wp2
      go_ret
      exact ⟨rfl, HB.out⟩
  · have hdB : (x.dflt == -1) = false := by rw [beq_eq_false_iff_ne]; exact hd
    rw [hdB] at hR
    go_wp2_with fail
    refine (HC.out _).mono ?_
    rintro e w2 ⟨rfl, hb2⟩
    have HX2 := Lib.hid (HX.out.below hb2 (Nat.le_refl _))
    have HB2 := Lib.hid (HB.out.trans (hb2.mono HB.out.size))
    clear hb2 x0 x1 x2 x3 x4 x5 x6 x7
    obtain ⟨x0, x1, x2, x3, x4, x5, x6, x7⟩ := nd_facts HX2.out
    cases g with
    | false =>
      obtain rfl : false = R := by rw [← hR]; rfl
      clear hR
      go_wp2
      go_ret
      exact ⟨rfl, HB2.out⟩
    | true =>
      go_wp2_with fail
      refine (H1.out _ HB2.out).mono ?_
      rintro e wy ⟨rfl, rfl⟩
      cases h1 with
      | false =>
        obtain rfl : false = R := by rw [← hR]; rfl
        clear hR
        go_wp2
        go_ret
        exact ⟨rfl, HB2.out⟩
      | true =>
        simp only [Bool.not_false, Bool.not_true, Bool.and_self, Bool.and_false, Bool.false_eq_true, if_false] at hR
        have hz := HZ.out
        cases z with
        | true =>
          obtain rfl : (x.tgt == -1) = R := by rw [← hR]; rfl
          clear hR
          go_wp2
          all_goals
            go_ret
            exact ⟨rfl, HB2.out⟩
        | false =>
          obtain rfl : h2 = R := by rw [← hR]; rfl
          clear hR
          go_wp2_with fail
          refine (H2.out _ HB2.out).mono ?_
          rintro e wy ⟨rfl, rfl⟩
          go_wp2
          go_ret
          exact ⟨rfl, HB2.out⟩
end Pr
end Go.Proofs.YtddedbpbenkdoaaGreatDoor
namespace Go.Proofs.YtddedbpbenkdoaaGreatDoor
open Go.RowKit

/-- An array of texts that reads as a list holds the list's texts. -/
theorem cells_of_texts {H : Type} {enc : TypeId × Value → H} {P : Program} {w : World} {base : Nat} {sp : Nat → Bool} {held : Bool} {fuel : Nat} {t e : TypeId} {n : Nat} {cs : List Value} {ss : List (List UInt8)} {p : List MemPlace}
    (ht : P.underlying t = some (.array n e)) (he : P.underlying e = some .string) (hce : P.cellsOf e = 1) (hct : P.cellsOf t = n)
    (h : DataW.trod enc P w base sp held fuel t cs = some (.agg (ss.map fun s => .lit (.string s)), p)) : cs = ss.map fun s => Value.string ⟨s.toArray⟩ := by
  cases fuel with
  | zero => simp [DataW.trod] at h
  | succ fuel =>
    simp only [DataW.trod, ht, hce, hct, Nat.mul_one] at h
    split at h
    · rename_i hl
      obtain ⟨xs, hm, hx⟩ := Option.map_eq_some_iff.1 h
      have hxs : xs.map (·.1) = ss.map fun s => (DataW.lit (.string s) : DataW H) := by
        have := congrArg Prod.fst hx
        simpa using this
      have hxl : xs.length = n := by simpa using Lib.mapM_length hm
      have hzl : ss.length = n := by
        have := congrArg List.length hxs
        simp at this
        omega
      apply List.ext_getElem?
      intro i
      by_cases hi : i < n
      · obtain ⟨b, hb, hf⟩ := Lib.mapM_at hm i i (by simp [hi])
        obtain ⟨z, hc, rfl, _⟩ := DataW.trod_string he hf
        have h1 : cs[i]? = some (.string z) := by
          have := congrArg (·[0]?) hc
          simpa [List.getElem?_take, List.getElem?_drop] using this
        have h2 : (xs.map (·.1))[i]? = some (DataW.lit (.string z.data.toList) : DataW H) := by simp [hb]
        rw [hxs] at h2
        simp only [List.getElem?_map, Option.map_eq_some_iff, DataW.lit.injEq, Lit.string.injEq] at h2
        obtain ⟨z', hz', rfl⟩ := h2
        simp [h1, hz']
      · rw [List.getElem?_eq_none (by omega), List.getElem?_eq_none (by simp; omega)]
    · cases h

/-- The words of package cond lie in its table. -/
def CoWords (W : World) : Prop := ∀ i : Nat, i < 18 → W.cell? ⟨17, i, none⟩ = some (.string ⟨(Co.words[i]!).toArray⟩)
theorem tab_cond_words {W : World} {rest : List (String × DataW Unit)} (h : laidMet Tryz.prog (("leasehold/cond.words", Rows.laid_leasehold_cond_words) :: rest) W) : CoWords W := by
  have hg : Tryz.prog.globalNamed "leasehold/cond.words" = some 17 := by kernel_rfl
  have hty : (Tryz.prog.globals[17]?).map (·.type) = some 142 := by kernel_rfl
  obtain ⟨ps, ⟨g', t', cs, fuel, p, q, hg', ht', hvar, hd, _, _⟩, _⟩ := h
  obtain rfl := Option.some.inj (hg.symm.trans hg')
  obtain rfl := Option.some.inj (hty.symm.trans ht')
  have hcs := cells_of_texts (ss := Co.words) Tryz.underlying142 Tryz.underlying9 (by kernel_rfl) (by kernel_rfl) hd
  intro i hi
  have hv : W.var? Tryz.prog "leasehold/cond.words" = some (Co.words.map fun s => Value.string ⟨s.toArray⟩).toArray := by rw [hvar, ← hcs]
  have := World.var?_cell hg hv i
  have hl : Co.words.length = 18 := rfl
  rw [this]
  simp [hl, hi]
section
variable {W : World} {ads : List Addr}
def pos6 (c : Int) : Nat := if c = 105 then 0 else if c = 108 then 1 else if c = 110 then 2 else if c = 111 then 3 else if c = 112 then 4 else if c = 113 then 5 else 100
theorem coErrs6 (hE : Errs W 183 [4, 9, 11, 5, 12, 13] ads) (hW : CoWords W) : CoErrs W (errMap pos6 ads) where
  e105 := errIn_of hE 105 0 _ rfl rfl
  e111 := errIn_of hE 111 3 _ rfl rfl
  e112 := errIn_of hE 112 4 _ rfl rfl
  words := hW
theorem coErrs16 (hE : Errs W 183 sents ads) (hW : CoWords W) : CoErrs W (errMap pos16 ads) where
  e105 := errIn_of hE 105 4 _ rfl rfl
  e111 := errIn_of hE 111 10 _ rfl rfl
  e112 := errIn_of hE 112 11 _ rfl rfl
  words := hW
end
end Go.Proofs.YtddedbpbenkdoaaGreatDoor
namespace Go.Proofs.YtddedbpbenkdoaaGreatDoor
open Go.RowKit

/-- The parser's cells where nothing is amiss. -/
def Dq.good (s : ByteArray) (st : Co.St) (d : Nat) : Dq := ⟨st.frm, st.till, ⟨(Co.text s.data.toList st).toArray⟩, 0, false, 0, d⟩
section
variable {w w1 : World} {q d : Nat} {s : ByteArray} {st : Co.St}
set_option maxHeartbeats 800000 in
theorem dinner_any (h : Cel w q ((Dq.good s st d).list s)) (hst : st.err = none) (hti : st.till ≤ s.size) (hsz : s.size ≤ 80) (hd : d ≤ 12) :
    Calls Tryz.prog 84 #[.pointer (some ⟨q, 0, none⟩)] w fun e w' => ∃ x : Dq, e = .returned (.bool (x.c == 0)) ∧ Cel w' q (x.list s) ∧
      (d = 12 → Says s (Co.fail 112 st) d x) ∧ (d ≠ 12 → Says s (Co.next s.data.toList st) (d + 1) x) ∧ w.grownBy w' (some q) := by
  obtain ⟨⟨_, k1, _, _, _, _, _, k7⟩, _, _, _, _, _, _, f7⟩ := Dq.facts h
  unfold Dq.good at k1 k7
  dsimp only at k1 k7
  by_cases h12 : d = 12
  · subst h12
    have k7 : w.cell? ⟨q, 7, none⟩ = some (.int .i64 12) := k7
    have AMI := Lib.hid (damiss_any h rfl 112 (st.frm : Int) (by decide))
    have HF : Hid (Co.eff (Co.fail 112 st) = some (112, st.frm)) := by
      show _ = _
      unfold Co.fail
      rw [hst]
      rfl
    clear h hst hti hsz
    go_enter Tryz.func84, Tryz.ntmps84
    go_wp2_with (go_at_call 62; refine (AMI.out).mono ?_; rintro e w3 ⟨rfl, h3, hg3⟩)
    go_ret
    refine ⟨_, ?_, h3, fun _ => ?_, fun h => absurd rfl h, hg3⟩
    · rfl
    · exact .bad _ _ _ _ _ _ (by decide) HF.out
  · have hdI : (d : Int) < 12 := by omega
    have hd1 : IntKind.i64.wrap ((d : Int) + 1) = (d : Int) + 1 := by rw [IntKind.wrap_i64]; omega
    have hs := h.set (i := 7) (by simp [Dq.list]) (.int .i64 ((d : Int) + 1))
    have HS : Hid (Cel (w.setCell ⟨q, 7, none⟩ (.int .i64 ((d : Int) + 1))) q ((Dq.good s st (d + 1)).list s)) := hs
    have NX := Lib.hid (dnext_any HS.out hst hti hsz)
    have HG : Hid (w.grownBy (w.setCell ⟨q, 7, none⟩ (.int .i64 ((d : Int) + 1))) (some q)) := set_grown (World.grownBy.refl _ _) 7 _
    have H12 := Lib.hid h12
    clear h hs hst hti hsz HS h12
    go_enter Tryz.func84, Tryz.ntmps84
    go_wp2_with (go_at_call 59; refine (NX.out).mono ?_; rintro e w3 ⟨rfl, ⟨x, h3, hsay⟩, hg3⟩)
    have FI := Lib.hid (dfine_any h3)
    go_wp2_with fail
    refine FI.out.mono ?_
    rintro e w4 ⟨rfl, rfl⟩
    go_wp2
    go_ret
    exact ⟨x, rfl, h3, fun h => absurd h H12.out, fun _ => hsay, grown_trans HG.out hg3⟩
/-- A part of the parser, as it tells of a state. -/
def DPart (q : Nat) (s : ByteArray) (g : Nat) (more : Array Value) (d : Nat) (f : Co.St → Co.Out) : Prop :=
  ∀ st e st', f st = some (e, st') → ∀ w, DpC w q s st d →
    Calls Tryz.prog g (#[.pointer (some ⟨q, 0, none⟩)] ++ more) w fun x w' => (∃ y, x = .returned (Ex.val y)) ∧ DpC w' q s st' d ∧ w.grownBy w' (some q)
/-- Where something is amiss already, all is left so. -/
theorem DpC.stay {f : Co.St → Co.Out} {st' : Co.St} {e : Co.Tr} (h : DpC w q s st d) (hf : f st = some (e, st')) (hk : Co.Keeps f) (ht : Co.Tot s.data.toList f) {x : Dq} (hx : Cel w q (x.list s)) (hs : Says s st d x) (hb : x.c ≠ 0) : DpC w q s st' d := by
  cases hs with
  | fine h1 h2 => exact absurd rfl hb
  | bad a n d' wd c k hc he =>
    obtain ⟨e2, st2, h1, h2, _⟩ := ht st h.gd
    rw [hf] at h1
    cases h1
    exact ⟨h2, _, hx, .bad a n d' wd c k hc (hk st e st' _ hf he)⟩
end
end Go.Proofs.YtddedbpbenkdoaaGreatDoor
namespace Go.Proofs.YtddedbpbenkdoaaGreatDoor
open Go.ChangeShapes Go.WideShapes Go.RowKit

/-- A slice that came in, its elements sz cells wide. -/
structure InRow (w : World) (sz : Nat) (A : Option Addr) (n c : Nat) (l : List Value) : Prop where
  row : RowS w w.heap.size sz A n l
  nn : A = none → n = 0 ∧ c = 0
  cap : n ≤ c
  most : c ≤ maxLen

theorem open_row1 {α : Type} [Inhabited α] {H : Type} {enc : TypeId × Value → H} {P : Program} {W : World} {t e : TypeId} {a : Option Addr} {len cap : Nat} {d : DataW H} {ps : List MemPlace}
    (f : α → Value) (ok : α → Prop) (ht : P.underlying t = some (.slice e)) (hc : P.cellsOf e = 1)
    (hel : ∀ n V x, DataW.trod enc P W 0 (fun _ => true) true n e [V] = some x → ∃ y, V = f y ∧ ok y)
    (h : DataW.Trod enc P W 0 (fun _ => true) true t (.slice a len cap) d ps) : ∃ l : List α, InRow W 1 a len cap (l.map f) ∧ ∀ y ∈ l, ok y := by
  obtain ⟨fuel, hf⟩ := h
  rcases Deep.open_slice1 ht hc hf with ⟨hcs, _⟩ | ⟨x, l, c, m, n, V, D, Pl, hcs, _, hl, hm, hmm, _, hx⟩
  · simp [Value.cells] at hcs
    obtain ⟨rfl, rfl, rfl⟩ := hcs
    exact ⟨[], ⟨RowS.nil _ _ _ _, fun _ => ⟨rfl, rfl⟩, Nat.le_refl _, by simp [maxLen]⟩, fun y h => by cases h⟩
  · simp [Value.cells] at hcs
    obtain ⟨rfl, rfl, rfl⟩ := hcs
    simp only [if_true] at hmm
    subst hmm
    obtain ⟨Y, hY⟩ := Deep.choose_lt (α := α) (p := fun i y => V i = f y ∧ ok y) (fun i hi => hel _ _ _ (hx i hi).2)
    refine ⟨(List.range len).map Y, ⟨⟨by simp, fun h0 => ?_⟩, (fun h => by cases h), hl, hm⟩, fun y hy => ?_⟩
    · have h1 := (hx 0 (by omega)).1
      obtain ⟨b, off, spot⟩ := x
      obtain rfl : spot = none := by simpa [Addr.add] using World.cell?_spot h1
      have hlt : b < W.heap.size := by simpa [Addr.add] using cell_lt h1
      refine ⟨b, off, rfl, hlt, fun k v hv => ?_⟩
      have hk : k < len := by simpa using (List.getElem?_eq_some_iff.1 hv).1
      rw [← addr_add b off k, (hx k (by omega)).1, (hY k (by omega)).1]
      simpa [hk] using hv
    · obtain ⟨i, hi, rfl⟩ := List.mem_map.1 hy
      exact (hY i (by have := List.mem_range.1 hi; omega)).2

section
variable {H : Type} {enc : TypeId × Value → H} {P : Program} {W : World} {t e : TypeId} {a : Option Addr} {len cap : Nat} {d : DataW H} {ps : List MemPlace}
theorem open_ints64 (ht : P.underlying t = some (.slice e)) (he : P.underlying e = some (.int .i64)) (hc : P.cellsOf e = 1) (h : DataW.Trod enc P W 0 (fun _ => true) true t (.slice a len cap) d ps) :
    ∃ l : List Int, InRow W 1 a len cap (l.map (Value.int .i64)) ∧ ∀ y ∈ l, -9223372036854775808 ≤ y ∧ y ≤ 9223372036854775807 :=
  open_row1 (Value.int .i64) _ ht hc (fun n V x hx => by
    obtain ⟨y, h1, _, h2⟩ := DataW.trod_int he hx
    have := bounds_i64 h2
    exact ⟨y, by simpa using h1, by omega⟩) h
theorem open_strs (ht : P.underlying t = some (.slice e)) (he : P.underlying e = some .string) (hc : P.cellsOf e = 1) (h : DataW.Trod enc P W 0 (fun _ => true) true t (.slice a len cap) d ps) :
    ∃ l : List ByteArray, InRow W 1 a len cap (l.map Value.string) ∧ ∀ y ∈ l, y.size ≤ maxLen :=
  open_row1 Value.string _ ht hc (fun n V x hx => by
    obtain ⟨y, h1, _, h2⟩ := DataW.trod_string he hx
    exact ⟨y, by simpa using h1, h2⟩) h
theorem open_boolrow (ht : P.underlying t = some (.slice e)) (he : P.underlying e = some .bool) (hc : P.cellsOf e = 1) (h : DataW.Trod enc P W 0 (fun _ => true) true t (.slice a len cap) d ps) :
    ∃ l : List Bool, InRow W 1 a len cap (l.map Value.bool) := by
  obtain ⟨l, h, _⟩ := open_row1 Value.bool (fun _ => True) ht hc (fun n V x hx => by
    obtain ⟨y, h1, _⟩ := DataW.trod_bool he hx
    exact ⟨y, by simpa using h1, trivial⟩) h
  exact ⟨l, h⟩
end
end Go.Proofs.YtddedbpbenkdoaaGreatDoor
