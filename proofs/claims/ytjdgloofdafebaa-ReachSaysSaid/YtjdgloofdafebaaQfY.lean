/- Package reach: reached. -/
import Derived.Test.YtjdgloofdafebaaQeY
namespace Go.Proofs.Ytjdgloofdafebaa
open Go.RowKit

theorem OwnK.cut {α : Type} {κ : Cs α} {w : World} {base n c : Nat} {e : TypeId} {A : Option Addr} {l : List α} (h : OwnK κ w base e A n c l) {k : Nat} (hk : k ≤ n) : OwnK κ w base e A k c (l.take k) := by
  have hl := h.len
  refine ⟨h.1, by rw [Cs.flat_len, List.length_take]; congr 1; omega, ?_⟩
  rcases h.2.2 with ⟨hv, h0⟩ | ⟨g, cap, cur, hv, hg, hh, h1, h2, h3, h4⟩
  · injection hv with e1 e2 e3
    subst e1; subst e3
    obtain rfl : k = 0 := by omega
    exact .inl ⟨rfl, rfl⟩
  · injection hv with e1 e2 e3
    subst e1; subst e3
    refine .inr ⟨g, c, cur, rfl, hg, hh, by omega, h2, h3, ?_⟩
    have h5 : (l.take k).flatMap κ.cs = (l.flatMap κ.cs).take (k * κ.k) := by
      have h6 : l.flatMap κ.cs = (l.take k).flatMap κ.cs ++ (l.drop k).flatMap κ.cs := by rw [← List.flatMap_append, List.take_append_drop]
      rw [h6, List.take_left' (by rw [Cs.flat_len, List.length_take]; congr 1; omega)]
    rw [h5, ← h4, List.take_take]
    congr 1
    have := Nat.mul_le_mul_right κ.k hk
    omega
theorem OwnK.cap {α : Type} {κ : Cs α} {w : World} {base n c : Nat} {e : TypeId} {A : Option Addr} {l : List α} (h : OwnK κ w base e A n c l) : n ≤ c := by
  rcases h.2.2 with ⟨hv, h0⟩ | ⟨g, cap, cur, hv, hg, hh, h1, h2, h3, h4⟩
  · omega
  · injection hv with e1 e2 e3
    omega
namespace Pr
theorem info_bool : (Try.prog.info? 4).map (fun i => (i.zero, i.size, i.bytes)) = some (some (.bool false), 1, 1) := by kernel_rfl
/-- A row of marks. -/
def bv (f : Nat → Bool) (n : Nat) : List Value := (List.range n).map fun v => .bool (f v)
theorem bv_at (f : Nat → Bool) {n i : Nat} (h : i < n) : (bv f n)[i]? = some (.bool (f i)) := by
  unfold bv
  rw [List.getElem?_map, List.getElem?_range h]
  rfl
def isT : Option Value → Bool
  | some (.bool true) => true
  | _ => false
def unmW (w : World) (b n : Nat) : Nat := (List.range n).countP fun v => !isT (w.cell? ⟨b, v, none⟩)
def lenOf : Value → Nat
  | .slice _ n _ => n
  | _ => 0
theorem unm_eq {w : World} {b n : Nat} {f : Nat → Bool} (h : Cel w b (bv f n)) : unmW w b n = Rc.unm f n := by
  unfold unmW Rc.unm
  apply List.countP_congr
  intro v hv
  rw [h.cell v _ (bv_at f (List.mem_range.1 hv))]
  cases f v <;> decide
/-- A row of numbers of one's own, just made. -/
theorem own_one (w : World) (k : Int) (base : Nat) (hb : base ≤ w.heap.size) : OwnK iκ (w.alloc (.cells #[.int .i64 k] 3)) base 3 (some ⟨w.heap.size, 0, none⟩) 1 1 [k] :=
  ⟨by decide, World.ownsRow_lit w #[.int .i64 k] 1 hb (by decide) rfl⟩
/-- The memory of reached: the rows in nb, the marks in ib, who waits in a row of its own. -/
structure KD (w wr : World) (nb ib B q n : Nat) (L : Nat → List Nat) (R : Nat → Option Addr) (rc : Nat → Nat) (f : Nat → Bool) (S : List Nat) (X : Option Addr) (cc : Nat) : Prop where
  rows : NR wr nb B q n L R rc
  marks : Cel wr ib (bv f n)
  wait : OwnK iκ wr q 3 X S.length cc (S.map Int.ofNat)
  bel : Below ib w wr
  le : q ≤ wr.heap.size
  o1 : nb < ib
  o2 : ib < q
  o3 : ∀ i, i < n → ∀ a, R i = some a → a.block < ib
section
variable {w wr w' : World} {nb ib B q n : Nat} {L : Nat → List Nat} {R : Nat → Option Addr} {rc : Nat → Nat} {f : Nat → Bool} {S : List Nat} {X : Option Addr} {cc : Nat}
theorem KD.below (h : KD w wr nb ib B q n L R rc f S X cc) (hb : Below wr.heap.size wr w') : KD w w' nb ib B q n L R rc f S X cc :=
  ⟨h.rows.kept (grown_none hb (Nat.le_refl _)) (by simp) (fun g hg => by cases hg), h.marks.below hb (Nat.le_refl _), h.wait.below hb (Nat.le_refl _), h.bel.trans (hb.mono (by have := h.le; have := h.o2; omega)), Nat.le_trans h.le hb.size, h.o1, h.o2, h.o3⟩
theorem KD.mark (h : KD w wr nb ib B q n L R rc f S X cc) {v : Nat} (hv : v < n) : KD w (wr.setCell ⟨ib, v, none⟩ (.bool true)) nb ib B q n L R rc (Rc.mark f v) S X cc := by
  have hg : wr.grownBy (wr.setCell ⟨ib, v, none⟩ (.bool true)) (some ib) := grown_setCell wr ⟨ib, v, none⟩ _
  have o1 := h.o1
  have o2 := h.o2
  refine ⟨⟨h.rows.low, h.rows.cel.kept hg (fun e => by have := Option.some.inj e; omega), fun i hi => ⟨(h.rows.own i hi).1.kept hg (fun a ha e => by have := h.o3 i hi a ha; have := Option.some.inj e; omega), (h.rows.own i hi).2⟩⟩, ?_, h.wait.kept hg (fun a ha e => by have := (h.wait.block ha).1; have := Option.some.inj e; omega),
    h.bel.setCell (p := ⟨ib, v, none⟩) (Nat.le_refl _) _, by simpa using h.le, o1, o2, h.o3⟩
  have h1 := h.marks.set (i := v) (by unfold bv; simpa using hv) (.bool true)
  unfold bv at h1
  rw [set_range] at h1
  have h2 : (fun i => if i = v then Value.bool true else .bool (f i)) = fun i => .bool (Rc.mark f v i) := by
    funext i
    unfold Rc.mark
    by_cases e : i = v <;> simp [e]
  rw [h2] at h1
  exact h1
theorem KD.app (h : KD w wr nb ib B q n L R rc f S X cc) {X' : Option Addr} {c' t : Nat} (hg : Grew wr w' (.slice X S.length cc) (.slice X' (S.length + 1) c')) (ho : OwnK iκ w' q 3 X' (S.length + 1) c' (S.map Int.ofNat ++ [(t : Int)])) :
    KD w w' nb ib B q n L R rc f (S ++ [t]) X' c' := by
  have o1 := h.o1
  have o2 := h.o2
  have hne : ∀ b, b < q → (Value.slice X S.length cc).ownBlock ≠ some b := fun b hb => own_ne fun a ha e => by have := (h.wait.block ha).1; omega
  refine ⟨h.rows.kept hg.grown (hne nb (by omega)) (fun g hh => .inr ?_), h.marks.kept hg.grown (hne ib o2), ?_, h.bel.trans ((hg.below h.wait.2 h.le).mono (by omega)), Nat.le_trans h.le hg.size, o1, o2, h.o3⟩
  · cases hx : X with
    | none => rw [hx] at hh; cases hh
    | some a =>
      rw [hx] at hh
      have := (h.wait.block hx).1
      have := Option.some.inj hh
      omega
  · rw [List.length_append, List.map_append]
    exact ho
theorem KD.pop {u : Nat} (h : KD w wr nb ib B q n L R rc f (S ++ [u]) X cc) : KD w wr nb ib B q n L R rc f S X cc := by
  refine ⟨h.rows, h.marks, ?_, h.bel, h.le, h.o1, h.o2, h.o3⟩
  have h1 := h.wait.cut (k := S.length) (by simp)
  rw [List.map_append, List.take_left' (by simp)] at h1
  exact h1
end
/-- The marks that come out: of each node, whether one comes there. -/
def Comes (n : Nat) (L : Nat → List Nat) (node : Int) (v : Nat) : Prop := ∃ a : Nat, node = a ∧ a < n ∧ Rc.Way L a v
def MarksOut (n : Nat) (Q : Nat → Prop) (w : World) (e : Ending) (w' : World) : Prop := (∃ (g : Nat) (f : Nat → Bool), e = .returned (.slice (some ⟨g, 0, none⟩) n n) ∧ Cel w' g (bv f n) ∧ w.heap.size ≤ g ∧ ∀ v, v < n → (f v = true ↔ Q v)) ∧ Below w.heap.size w w'
set_option maxHeartbeats 3200000 in
set_option maxRecDepth 10000 in
theorem reached_any (nb B B' n : Nat) (L : Nat → List Nat) (node : Int) (w : World) (hN : NX w nb B B' n L) (hB : B' ≤ w.heap.size) (hn : n ≤ 100000) (hlen : ∀ u, (L u).length ≤ 100000) (hL : ∀ u v, v ∈ L u → v < n) :
    Calls Try.prog 33 #[.slice (some ⟨nb, 0, none⟩) n n, .int .i64 node] w (MarksOut n (Comes n L node) w) := by
  obtain ⟨i0, hi0, hz0, hz1, hz2⟩ := info_parts info_int
  obtain ⟨i2, hi2, hy0, hy1, hy2⟩ := info_parts info_bool
  have HN := Lib.hid hN
  have hnbl : nb < w.heap.size := by obtain ⟨X, c, hc, _⟩ := hN.ex; exact hc.lt
  clear hN
  go_enter Try.func33, Try.ntmps33
  go_upto_region 2 with (at_make; refine wpList_make_full _ rfl (.tmp 12) (.tmp 12) 44 rfl w.heap.size 4 i2 _ 1 Try.underlying44 hi2 hy0 hy1 .i64 .i64 _ _ n rfl rfl rfl rfl (by rw [hy2]; omega) (by unfold maxLen; omega) (Nat.le_refl _) ?_; intro w1 ho1 hg1)
  have hM := own_cel ho1
  rw [made_one _ rfl] at hM
  have HM : Hid (Cel w1 w.heap.size (bv (fun _ => false) n)) := Lib.hid hM
  have HB1 := Lib.hid ((Below.refl w.heap.size w).grown hg1 (Nat.le_refl _) (fun k hk => by cases hk))
  have HN1 := Lib.hid (HN.out.kept hg1 (by simp) (fun g hg => by cases hg))
  have hp1 : w.heap.size < w1.heap.size := hM.lt
  clear hg1 hM ho1 HN
  go_wp2_with fail
  refine (isplace_any node (n : Int) w1).mono ?_
  rintro e wx ⟨rfl, rfl⟩
  by_cases hpl : (decide (0 ≤ node) && decide (node < (n : Int))) = true
  · rw [hpl]
    obtain ⟨a, rfl, han⟩ : ∃ a : Nat, node = a ∧ a < n := by
      simp only [Bool.and_eq_true, decide_eq_true_eq] at hpl
      exact ⟨node.toNat, by omega, by omega⟩
    clear hpl
    have hba : Below w1.heap.size w1 (w1.alloc (.cells #[.int .i64 (a : Int)] 3)) := (Below.refl _ _).alloc (Nat.le_refl _) _
    have hKD : Hid (∃ R rc, KD w (w1.alloc (.cells #[.int .i64 (a : Int)] 3)) nb w.heap.size B w1.heap.size n L R rc (fun _ => false) [a] (some ⟨w1.heap.size, 0, none⟩) 1) := by
      obtain ⟨R, rc, hr⟩ := HN1.out.nr
      have hr2 := hr.kept (grown_none hba (Nat.le_refl _)) (by simp) (fun g hg => by cases hg)
      refine ⟨R, rc, ⟨hr2.low, hr2.cel, fun i hi => ⟨(hr2.own i hi).1, fun a ha => by have := (hr2.own i hi).2 a ha; omega⟩⟩, HM.out.below hba (Nat.le_refl _), own_one w1 a _ (Nat.le_refl _), HB1.out.trans (hba.mono (Nat.le_of_lt hp1)), by simp, hnbl, hp1, fun i hi a ha => by have := (hr2.own i hi).2 a ha; omega⟩
    obtain ⟨R, rc, hk⟩ := hKD.out
    have HK := Lib.hid hk
    have HD := Lib.hid (Rc.Do.start (n := n) (L := L) han)
    have HLT := Lib.hid hL
    have HLE := Lib.hid hlen
    clear hba hKD hk HM HB1 HN1 hL hlen
    go_wp2_with fail
    generalize w1.alloc _ = w2 at *
    go_loopw [6] (fun s wr => ∃ (X : Option Addr) (S : List Nat) (cc : Nat) (f : Nat → Bool), s = .slice X S.length cc ∧ Rc.Do n L a f S ∧ KD w wr nb w.heap.size B w1.heap.size n L R rc f S X cc ∧ 2 * Rc.unm f n + S.length ≤ 2 * n + 1) (fun s wr => 2 * unmW wr w.heap.size n + lenOf s)
    case atStart => exact ⟨_, [a], 1, _, rfl, HD.out, HK.out, by have := Rc.unm_le (fun _ => false) n; simp; omega⟩
    case round =>
      obtain ⟨X, S, cc, f, rfl, hd, hk, hsn⟩ := hrel
      have HSN := Lib.hid hsn
      clear hsn
      have HKr := Lib.hid hk
      have HDr := Lib.hid hd
      have hle := hk.le
      have hcap := hk.wait.cap
      have hun := unm_eq hk.marks
      have hxs := hk.wait.most
      have hxs : cc ≤ 9223372036854775807 := hxs
      clear hk hd HD HK
      rcases List.eq_nil_or_concat S with hS | ⟨S', u, hS⟩
      · subst hS
        have HF := Lib.hid HDr.out.fin
        have HM := Lib.hid HKr.out.marks
        have HBE := Lib.hid HKr.out.bel
        have hz : (([] : List Nat).length : Int) = 0 := rfl
        clear HKr HDr hcap hun hle hxs
        go_wp2
        go_ret
        exact ⟨⟨_, f, rfl, HM.out, Nat.le_refl _, fun v hv => (HF.out v).trans ⟨fun h => ⟨a, rfl, han, h⟩, fun ⟨b, e, _, h⟩ => by obtain rfl : a = b := (by omega); exact h⟩⟩, HBE.out⟩
      · rw [List.concat_eq_append] at hS
        subst hS
        have hlS : (S' ++ [u]).length = S'.length + 1 := by simp
        rw [hlS] at hcap HSN
        obtain ⟨g, hXg, hgq, hgl⟩ := HKr.out.wait.some_of (by omega)
        subst hXg
        have c1 := iκ_cells HKr.out.wait.row (show S'.length < (S' ++ [u]).length by omega)
        rw [Nat.zero_add] at c1
        have hcu : ((S' ++ [u]).map Int.ofNat)[S'.length]! = (u : Int) := by
          rw [getElem!_pos _ _ (by simp)]; simp
        rw [hcu] at c1
        have HDF := Lib.hid HDr.out.pop
        have hun2 := HDF.out.cur.1
        have HKp := Lib.hid HKr.out.pop
        have r1 := HKp.out.rows.cel.cell u (.slice (R u) (L u).length (rc u)) (by rw [List.getElem?_map, List.getElem?_range hun2]; rfl)
        have hlL := HLE.out u
        have HM0 : Hid (2 * Rc.unm f n + S'.length + 1 = 2 * unmW wr w.heap.size n + lenOf (.slice (some ⟨g, 0, none⟩) (S' ++ [u]).length cc)) := Lib.hid (by rw [hun]; simp [lenOf]; omega)
        have hu0 : (0 : Int) ≤ (u : Int) := by omega
        have huI : (u : Int) < (n : Int) := by omega
        have hkI : IntKind.i64.wrap (((S'.length : Nat) : Int) + 1 - 1) = (S'.length : Int) := by rw [IntKind.wrap_i64]; omega
        have hk0 : (0 : Int) ≤ (S'.length : Int) := by omega
        have hk1 : (S'.length : Int) < (S'.length : Int) + 1 := by omega
        have hk2 : (S'.length : Int) ≤ (cc : Int) := by omega
        have hpos : (0 : Int) < (S'.length : Int) + 1 := by omega
        clear hcu HKr HDr hun
        rw [hlS]
        go_wp2_with fail
        clear c1 r1 hkI hk0 hk1 hk2 hpos
        generalize hRu : R u = Ru at *
        have HRU := Lib.hid hRu
        clear hRu
        generalize rc u = ru at *
        go_loopw [6, 40] (fun s i wr' => ∃ (X : Option Addr) (S2 : List Nat) (c2 : Nat) (f2 : Nat → Bool) (t : Nat), t ≤ (L u).length ∧ i = .int .i64 t ∧ s = .slice X S2.length c2 ∧ Rc.Df n L a f2 S2 u t ∧ KD w wr' nb w.heap.size B w1.heap.size n L R rc f2 S2 X c2 ∧ 2 * Rc.unm f2 n + S2.length ≤ 2 * Rc.unm f n + S'.length) (fun _ i _ => (L u).length - (intOf i).toNat)
        case atStart => exact ⟨_, S', cc, f, 0, Nat.zero_le _, rfl, rfl, HDF.out, HKp.out, Nat.le_refl _⟩
        case round =>
          obtain ⟨X, S2, c2, f2, t, htl, rfl, rfl, hdf, hkk, hme⟩ := hrel
          have HKr := Lib.hid hkk
          have HDr := Lib.hid hdf
          have HME := Lib.hid hme
          have hle := hkk.le
          have hcap := hkk.wait.cap
          have hxs : c2 ≤ 9223372036854775807 := hkk.wait.most
          have ht0 : (0 : Int) ≤ (t : Int) := by omega
          clear hkk hdf hme HDF HKp
          by_cases hlt : t < (L u).length
          · have hIt : (t : Int) < ((L u).length : Int) := by omega
            have hrow := (HKr.out.rows.own u hun2).1.row
            rw [HRU.out] at hrow
            obtain ⟨b2, off2, rfl, _, _⟩ := hrow.2 (by omega)
            have g1 := iκ_cells hrow hlt
            have hgt : ((L u).map Int.ofNat)[t]! = ((L u)[t] : Int) := by
              rw [getElem!_pos ((L u).map Int.ofNat) t (by simpa using hlt)]; simp
            rw [hgt] at g1
            have hvn := HLT.out u _ (List.getElem_mem hlt)
            have hvt : (L u)[t]? = some (L u)[t] := List.getElem?_eq_getElem hlt
            generalize (L u)[t] = v at *
            have hv0 : (0 : Int) ≤ (v : Int) := by omega
            have hvI : (v : Int) < (n : Int) := by omega
            have m1 := HKr.out.marks.cell v _ (bv_at f2 hvn)
            have m2 := HKr.out.marks.froz v (by unfold bv; simpa using hvn)
            have HVT := Lib.hid hvt
            clear hgt hrow hvt
            cases hfv : f2 v with
            | true =>
              have HO := Lib.hid (HDr.out.old HVT.out hfv)
              rw [hfv] at m1
              clear hfv
              go_wp2_with fail
              go_roundw
              case measure => simp [intOf]; omega
              case rel => exact ⟨X, S2, c2, f2, t + 1, by omega, by go_num, rfl, HO.out, HKr.out, HME.out⟩
            | false =>
              have HO := Lib.hid (HDr.out.new HVT.out hvn)
              have HU := Lib.hid (Rc.unm_mark hfv hvn)
              rw [hfv] at m1
              have HKm := Lib.hid (HKr.out.mark hvn)
              have hun4 : Rc.unm f n ≤ n := Nat.le_trans List.countP_le_length (by rw [List.length_range]; exact Nat.le_refl _)
              have hS2 : S2.length ≤ 1000000 := by
                have h1 := HDr.out
                have h2 := HME.out
                have h3 := HSN.out
                omega
              clear hfv
              go_upto_region 14 with (fail)
              generalize wr.setCell _ _ = ws at *
              have hba : Below ws.heap.size ws (ws.alloc (.cells #[.int .i64 (v : Int)] 3)) := (Below.refl _ _).alloc (Nat.le_refl _) _
              have HKa := Lib.hid (HKm.out.below hba)
              have HR : Hid (KRow iκ (ws.alloc (.cells #[.int .i64 (v : Int)] 3)) (ws.heap.size + 1) (some ⟨ws.heap.size, 0, none⟩) 1 [(v : Int)]) := Lib.hid (KRow.lit (κ := iκ) ws 3 [(v : Int)] #[.int .i64 v] rfl)
              clear hba m1 m2 g1
              go_wp2_with (at_builtin; refine append_k (κ := iκ) rfl (.tmp 52) (.tmp 54) 26 3 i0 _ 8 Try.underlying26 hi0 hz0 hz1 hz2 rfl rfl _ w1.heap.size _ X S2.length c2 _ ⟨ws.heap.size, 0, none⟩ (v : Int) rfl HKa.out.wait rfl HR.out (by omega) (by decide) HKa.out.le ?_; intro X' cc' w' ho' hg')
              have HK2 := Lib.hid (HKa.out.app hg' ho')
              clear ho' hg'
              go_wp2_with fail
              go_roundw
              case measure => simp [intOf]; omega
              case rel => exact ⟨X', S2 ++ [v], cc', _, t + 1, by omega, by go_num, by rw [List.length_append]; rfl, HO.out, HK2.out, by have h1 := HME.out; have h2 := HU.out; rw [List.length_append]; simp; omega⟩
          · obtain rfl : t = (L u).length := by omega
            have hIt : ¬ (((L u).length : Nat) : Int) < ((L u).length : Int) := by omega
            have HF := Lib.hid (HDr.out.fin (Nat.le_refl _))
            have HUN := Lib.hid (unm_eq HKr.out.marks)
            clear HDr
            go_wp2_with fail
            go_roundw
            case measure =>
              have h1 := HM0.out
              have h2 := HME.out
              rw [HUN.out]
              simp only [lenOf] at h1 ⊢
              omega
            case rel => exact ⟨X, S2, c2, f2, rfl, HF.out, HKr.out, by have h1 := HME.out; have h2 := HSN.out; omega⟩
  · rw [Bool.not_eq_true] at hpl
    rw [hpl]
    have HNO : Hid (∀ v, ¬ Comes n L node v) := by
      rintro v ⟨a, rfl, h1, _⟩
      rw [decide_eq_true (show (0 : Int) ≤ (a : Int) by omega), decide_eq_true (show (a : Int) < (n : Int) by omega)] at hpl
      cases hpl
    clear hpl
    go_wp2
    go_ret
    exact ⟨⟨_, _, rfl, HM.out, Nat.le_refl _, fun v _ => ⟨fun h => (by cases h), fun h => absurd h (HNO.out v)⟩⟩, HB1.out⟩
end Pr
end Go.Proofs.Ytjdgloofdafebaa
