/- Package again: Look, the walk. -/
import Derived.Test.YtfpennnbicclfaaAgd
import Derived.Test.YtfpennnbicclfaaOn
namespace Go.Proofs.Ytfpennnbicclfaa
open Go.RowKit

namespace Ag
theorem bk_look {w : World} {q : Nat} {m : Option Nat} {l : List Pg} {s : ByteArray} (hb : BkC w q m l) (hs : s.size ≤ maxLen) :
    (Instr.lookup 25 (.map m) (.string s) true).run Try.prog w = .ok (.tuple #[(rawAt s l).val, .bool (hasAt s l)]) w := by
  rcases hb.own with ⟨rfl, rfl⟩ | ⟨b, rfl, ho⟩
  · exact Maps.look_nil (P := Try.prog) (w := w) true law Try.underlying25 (zeroPg w) (key_str hs)
  · exact look_run ho hs
theorem bk_len {w : World} {q : Nat} {m : Option Nat} {l : List Pg} (hb : BkC w q m l) (ty : TypeId) :
    (Builtin.len_ #[25] ty #[.map m]).run Try.prog w = .ok (.int .i64 l.length) w := by
  rcases hb.own with ⟨rfl, rfl⟩ | ⟨b, rfl, ho⟩
  · exact Maps.len_nil Try.underlying25 ty
  · rw [← size_mapD l]
    exact World.ownsMap.len ho Try.underlying25 ty
theorem idx_lt {α : Type} (eq : α → α → Bool) (x : α) : ∀ (l : List α) (i : Nat), Lib.idxByFrom eq x l i < (i : Int) + (l.length : Int)
  | [], i => by
    unfold Lib.idxByFrom
    simp only [List.length_nil]
    omega
  | y :: r, i => by
    unfold Lib.idxByFrom
    have := idx_lt eq x r (i + 1)
    simp only [List.length_cons]
    split
    · omega
    · omega
theorem cel4 {w : World} {z : Nat} {a0 a1 a2 a3 : Value} (h : Cel w z [a0, a1, a2, a3]) : (w.cell? ⟨z, 0, none⟩ = some a0 ∧ w.cell? ⟨z, 1, none⟩ = some a1 ∧ w.cell? ⟨z, 2, none⟩ = some a2 ∧ w.cell? ⟨z, 3, none⟩ = some a3) ∧ (w.frozen? ⟨z, 0, none⟩ = false ∧ w.frozen? ⟨z, 1, none⟩ = false ∧ w.frozen? ⟨z, 2, none⟩ = false ∧ w.frozen? ⟨z, 3, none⟩ = false) :=
  ⟨⟨h.cell 0 _ rfl, h.cell 1 _ rfl, h.cell 2 _ rfl, h.cell 3 _ rfl⟩, h.froz 0 (by simp), h.froz 1 (by simp), h.froz 2 (by simp), h.froz 3 (by simp)⟩
theorem cel3 {w : World} {z : Nat} {a0 a1 a2 : Value} (h : Cel w z [a0, a1, a2]) : w.cell? ⟨z, 0, none⟩ = some a0 ∧ w.cell? ⟨z, 1, none⟩ = some a1 ∧ w.cell? ⟨z, 2, none⟩ = some a2 :=
  ⟨h.cell 0 _ rfl, h.cell 1 _ rfl, h.cell 2 _ rfl⟩
set_option maxRecDepth 10000 in
set_option maxHeartbeats 1600000 in
theorem look_any (q : Nat) (m : Option Nat) (l : List Pg) (s : ByteArray) (i k : Int) (w : World) (hb : BkC w q m l) (hs : s.size ≤ 1000000) :
    Calls Try.prog 14 #[.pointer (some ⟨q, 0, none⟩), .agg #[.string s, .int .i64 i, .int .i64 k]] w fun e w' => ∃ A n c, e = .returned (.tuple #[.int .i64 (look (l.map Pg.ab) s i k).1, .slice A n c]) ∧ OwnBytes w' w.heap.size 5 A n c (look (l.map Pg.ab) s i k).2 ∧ Below w.heap.size w w' := by
  have hs2 : s.size ≤ maxLen := by unfold maxLen; omega
  have hb1 : Below w.heap.size w (w.alloc (.cells #[.string s, .int .i64 i, .int .i64 k] 39)) := (Below.refl _ _).alloc (Nat.le_refl _) _
  have hB1 := hb.below hb1
  have hc1 : Cel (w.alloc (.cells #[.string s, .int .i64 i, .int .i64 k] 39)) w.heap.size [.string s, .int .i64 i, .int .i64 k] := Cel.lit w #[.string s, .int .i64 i, .int .i64 k] 39
  have hlk : ∀ W, Below w.heap.size w W → (Instr.lookup 25 (.map m) (.string s) true).run Try.prog W = .ok (.tuple #[(rawAt s l).val, .bool (hasAt s l)]) W := fun W hW => bk_look (hb.below hW) hs2
  obtain ⟨X, hX⟩ : ∃ X, rawAt s l = X := ⟨_, rfl⟩
  obtain ⟨B, hBB⟩ : ∃ B, hasAt s l = B := ⟨_, rfl⟩
  rw [hX, hBB] at hlk
  obtain ⟨wkr, inc, ka, kn, kc, ra, rn, rc⟩ := X
  unfold Rw.val at hlk
  dsimp only at hlk
  have L1 := hlk _ hb1.drew
  have L2 := hlk _ (hb1.alloc hb1.size (.cells #[.string ⟨#[]⟩, .int .i64 0, .slice none 0 0, .slice none 0 0] 51)).drew
  have HB := Lib.hid hb
  have HX := Lib.hid (And.intro hX hBB)
  have HB1 := Lib.hid hb1
  have HC1 := Lib.hid hc1
  have c0 := hB1.cel.cell 0 _ rfl
  have hq1 := hB1.cel.lt
  have hw1 : w.heap.size < (w.alloc (.cells #[.string s, .int .i64 i, .int .i64 k] 39)).heap.size := by simp
  obtain ⟨d0, d1, d2⟩ := cel3 hc1
  clear hb hlk hB1 hX hBB hc1 hb1 hs hs2
  obtain ⟨r, hr⟩ : ∃ r, look (l.map Pg.ab) s i k = r := ⟨_, rfl⟩
  rw [hr]
  have HR := Lib.hid hr
  clear hr
  go_enter Try.func14, Try.ntmps14
  go_upto_region 1 with (fail)
  generalize w.alloc _ = w1 at *
  apply once
  case h =>
    intro ho
    go_region
    all_goals exact ho
  have hb2 : Below w.heap.size w (w1.alloc (.cells #[.string wkr, .int .i64 inc, .slice ka kn kc, .slice ra rn rc] 51)).drew := (HB1.out.alloc HB1.out.size _).drew
  have hb3 : Below w1.heap.size w1 (w1.alloc (.cells #[.string wkr, .int .i64 inc, .slice ka kn kc, .slice ra rn rc] 51)).drew := ((Below.refl _ _).alloc (Nat.le_refl _) _).drew
  have hp2 : Cel (w1.alloc (.cells #[.string wkr, .int .i64 inc, .slice ka kn kc, .slice ra rn rc] 51)).drew w1.heap.size [.string wkr, .int .i64 inc, .slice ka kn kc, .slice ra rn rc] := (Cel.lit w1 #[.string wkr, .int .i64 inc, .slice ka kn kc, .slice ra rn rc] 51).drewN 1
  have hd2 := HC1.out.below hb3 (Nat.le_refl _)
  clear d0 d1 d2 c0 L1 L2 hb3
  generalize (w1.alloc _).drew = w2 at *
  have hk2 := HB.out.below hb2
  obtain ⟨c0, _⟩ : w2.cell? ⟨q, 0, none⟩ = some (.map m) ∧ True := ⟨hk2.cel.cell 0 _ rfl, trivial⟩
  obtain ⟨d0, d1, d2⟩ := cel3 hd2
  obtain ⟨⟨p0, p1, p2, p3⟩, _⟩ := cel4 hp2
  have hlen := fun ty => bk_len hk2 ty
  have HB2 := Lib.hid hb2
  have HK2 := Lib.hid hk2
  clear hk2 hb2 hp2 hd2
  have hr := HR.out
  clear HR
  have hml := map_at Pg.wkr Ab.wkr Pg.ab ab_wkr s l
  unfold look at hr
  rw [hml, List.length_map] at hr
  obtain ⟨hX, hBB⟩ := HX.out
  unfold rawAt at hX
  unfold hasAt at hBB
  clear HX hml
  cases hf : at? Pg.wkr s l with
  | none =>
    rw [hf] at hr hX hBB
    obtain rfl : false = B := hBB
    dsimp only [Option.map_none] at hr
    clear hX hf
    generalize l.length = N at *
    by_cases hN : N < 6
    · rw [if_pos hN] at hr
      subst hr
      have hN2 : decide ((6 : Int) ≤ (N : Int)) = false := decide_eq_false (by omega)
      go_wp2
      refine bodyPost_ret (results_tmp2 rfl _ _ _) rfl ?_
      exact ⟨none, 0, 0, rfl, World.ownsRow_nil _ _ _ _, HB2.out⟩
    · rw [if_neg hN] at hr
      subst hr
      have hN2 : decide ((6 : Int) ≤ (N : Int)) = true := decide_eq_true (by omega)
      go_wp2
      refine bodyPost_ret (results_tmp2 rfl _ _ _) rfl ?_
      exact ⟨none, 0, 0, rfl, World.ownsRow_nil _ _ _ _, HB2.out⟩
  | some p =>
    rw [hf] at hr hX hBB
    obtain rfl : true = B := hBB
    have hP := HK2.out.pgs p (at_some Pg.wkr hf).1
    obtain ⟨pw, pi, pka, pkc, keys, pra, prc, rows⟩ := p
    injection hX with e1 e2 e3 e4 e5 e6 e7 e8
    subst e1 e2 e3 e4 e5 e6 e7 e8
    dsimp only [Option.map_some, Pg.ab, Pg.raw] at *
    clear hf hlen
    by_cases h1 : pi < i
    · rw [if_pos h1] at hr
      subst hr
      go_wp2
      refine bodyPost_ret (results_tmp2 rfl _ _ _) rfl ?_
      exact ⟨none, 0, 0, rfl, World.ownsRow_nil _ _ _ _, HB2.out⟩
    · rw [if_neg h1] at hr
      by_cases h2 : i < pi
      · rw [if_pos h2] at hr
        subst hr
        go_wp2
        refine bodyPost_ret (results_tmp2 rfl _ _ _) rfl ?_
        exact ⟨none, 0, 0, rfl, World.ownsRow_nil _ _ _ _, HB2.out⟩
      · rw [if_neg h2] at hr
        have HI := Lib.hid (idx_any pka keys.length pkc keys k w2 hP.keys hP.few.1)
        have HP := Lib.hid hP
        have hjl : Lib.idxBy (fun x y => decide (x = y)) keys k < (keys.length : Int) := by
          have := idx_lt (fun x y : Int => decide (x = y)) k keys 0
          unfold Lib.idxBy
          omega
        clear hP
        generalize Lib.idxBy (fun x y => decide (x = y)) keys k = j at *
        by_cases h3 : j < 0
        · rw [if_pos h3] at hr
          subst hr
          clear hjl
          go_wp2_with (go_at_call 30; refine HI.out.mono ?_; rintro e w3 ⟨rfl, rfl⟩)
          refine bodyPost_ret (results_tmp2 rfl _ _ _) rfl ?_
          exact ⟨none, 0, 0, rfl, World.ownsRow_nil _ _ _ _, HB2.out⟩
        · rw [if_neg h3] at hr
          obtain ⟨jn, rfl⟩ := Int.eq_ofNat_of_zero_le (show 0 ≤ j by omega)
          have hjn : jn < rows.length := by have := HP.out.few.2; dsimp only at this; omega
          have hrow := HP.out.rows.row
          obtain ⟨b, off, rfl, hbl, hcel⟩ := hrow.2 (by dsimp only; omega)
          have hv : w2.cell? ⟨b, off + jn, none⟩ = some (.slice rows[jn]!.a rows[jn]!.n rows[jn]!.c) := by
            refine hcel jn _ ?_
            rw [p_flat, List.getElem?_map, List.getElem?_eq_getElem hjn, getElem!_pos rows jn hjn]
            rfl
          have hR := HP.out.rep rows[jn]! (by rw [getElem!_pos rows jn hjn]; exact List.getElem_mem hjn)
          have hrl : (rows.map Part.l)[jn]! = rows[jn]!.l := by rw [getElem!_pos _ jn (by simpa using hjn), getElem!_pos rows jn hjn]; simp
          simp only [Int.toNat_natCast] at hr
          rw [hrl] at hr
          generalize rows[jn]! = rp at *
          obtain ⟨ra, rn, rc, rl⟩ := rp
          subst hr
          have HCL := Lib.hid (clone_any ra rn rc rl w2 hR.row hR.nn (by have := hR.len; dsimp only at this; omega))
          clear hR hrl hcel hrow HP
          go_wp2_with (first
            | (go_at_call 30; refine HI.out.mono ?_; rintro e w3 ⟨rfl, rfl⟩)
            | (go_at_call 26; refine HCL.out.mono ?_; rintro e w3 ⟨A', c', rfl, ho, hb⟩))
          refine bodyPost_ret (results_tmp2 rfl _ _ _) rfl ?_
          exact ⟨A', rn, c', rfl, own_base ho HB2.out.size, HB2.out.trans (hb.mono HB2.out.size)⟩
end Ag
end Go.Proofs.Ytfpennnbicclfaa
