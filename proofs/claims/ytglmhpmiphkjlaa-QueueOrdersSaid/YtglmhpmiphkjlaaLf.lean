/- Package queue: of. -/
import Derived.Test.YtglmhpmiphkjlaaLe
namespace Go.Proofs.Ytglmhpmiphkjlaa
open Go.RowKit

namespace Qu
open Ls (T)
theorem blkof {A : Option Addr} {n c r : Nat} (h : (Value.slice A n c).ownBlock = some r) : ∃ a, A = some a ∧ a.block = r := by
  cases A with
  | none => cases h
  | some a => exact ⟨a, rfl, Option.some.inj h⟩
theorem own_ne {α : Type} {κ : Cs α} {w : World} {base n c q : Nat} {e : TypeId} {A : Option Addr} {l : List α} (ho : OwnK κ w base e A n c l) (hq : q < base) : (Value.slice A n c).ownBlock ≠ some q := fun h => by
  obtain ⟨a, ha, hb⟩ := blkof h
  have h1 := (ho.block ha).1
  omega
theorem asked_succ (ts : List ByteArray) {j : Nat} (hj : j < ts.length) : asked (ts.take (j + 1)) = (asked (ts.take j)).put (kS ts[j]!) (.agg []) := by
  unfold asked
  rw [List.take_succ_eq_append_getElem hj, List.map_append, getElem!_pos ts j hj]
  exact Maps.setOf_snoc _ _ _
/-- The topics that were asked for, as they lie in the loop. -/
def Ask (w : World) (b n : Nat) (D : DataW Unit) : Prop := w.ownsMap Try.prog 9 (unitElem (H := Unit)) b n D
theorem own_nil (κ : Cs T) (hk : 0 < κ.k) (w : World) (base : Nat) (e : TypeId) : OwnK κ w base e none 0 0 [] := ⟨hk, by simp, .inl ⟨rfl, rfl⟩⟩
theorem zeroS (w : World) : (zeroValue 77).run Try.prog w = .ok (.agg #[]) w := by kernel_rfl
/-- Was this topic asked for? -/
theorem wpList_lookup_asked {ops : Array Oper} {rest : List Oper} {o : Oper} {a : Act} {Q : Exit → Act → World → Prop} (w : World) (hg : o.guard = none) (m x : Operand) (hop : o.op = Op.lookup 76 m x true) (b n : Nat) (ts : List ByteArray) (s : ByteArray) (B : Bool)
    (hm : a.eval m = .map (some b)) (hask : Ask w b n (asked ts)) (hx : a.eval x = .string s) (hs : s.size ≤ 1000) (hB : asks ts s = B) (hK : wpList Try.prog ops Q rest (a.put o.dst (.tuple #[.agg #[], .bool B])) w) :
    wpList Try.prog ops Q (o :: rest) a w :=
  wpList_lookup_own_unit w hg m x 76 hop 9 77 lawS Try.underlying76 (zeroS w) b n (asked ts) hm hask (.string s) (kS s) hx (WideMaps.keyOf_string_mk Try.underlying9 (by unfold maxLen; omega)) (by rw [has_asked, hB]; exact hK)
set_option maxRecDepth 100000 in
set_option maxHeartbeats 3200000 in
theorem of_any (q : Nat) (m : Option Nat) (l : List T) (A : Option Addr) (n c : Nat) (ts : List ByteArray) (w : World) (hq : QuC w q m l) (hx : KRow xκ w w.heap.size A n ts) (hts : ∀ s ∈ ts, s.size ≤ 1000) (hn : n ≤ 100000) (hl : l.length ≤ 100000) :
    Calls Try.prog 31 #[.pointer (some ⟨q, 0, none⟩), .slice A n c] w fun e w' => (∃ A' n' c' r, e = .returned (.slice A' n' c') ∧ OwnK tκ w' w.heap.size 38 A' n' c' r ∧ r.Perm (l.filter fun x => asks ts x.top)) ∧ Below w.heap.size w w' := by
  obtain rfl : ts.length = n := hx.len (by decide)
  have hmm := fun n w => run_makeMapH (P := Try.prog) Try.underlying76 n w
  obtain ⟨i0, hi0, hz0, hz1, hz2⟩ := info_parts info_task
  have HQ := Lib.hid hq
  have HX := Lib.hid hx
  have HT := Lib.hid hts
  have HL := Lib.hid hl
  have HN := Lib.hid hn
  clear hq hx hts hl hn
  go_enter Try.func31, Try.ntmps31
  go_wp2_with fail
  go_loopw [18] (fun i wr => ∃ j : Nat, j ≤ ts.length ∧ i = .int .i64 j ∧ Ask wr w.heap.size j (asked (ts.take j)) ∧ Below w.heap.size w wr) (fun i _ => ts.length - (intOf i).toNat)
  case atStart => exact ⟨0, Nat.zero_le _, rfl, World.ownsMap_made _ _ _ _, (Below.refl _ _).alloc (Nat.le_refl _) _⟩
  case round =>
    obtain ⟨j, hj, rfl, hask, hbr⟩ := hrel
    have hj0 : (0 : Int) ≤ (j : Int) := by omega
    by_cases hlt : j < ts.length
    · have hI : (j : Int) < (ts.length : Int) := by omega
      have hjn : j < 100000 := by have h1 := HN.out; omega
      have hwj : wrap64 ((j : Int) + 1) = ((j + 1 : Nat) : Int) := by unfold wrap64; omega
      have hZ := HX.out.below hbr (Nat.le_refl _)
      obtain ⟨bz, oz, rfl, _, _⟩ := hZ.2 (by omega)
      have t0 := x_at hZ hlt
      have hsz : (ts[j]!).size ≤ maxLen := by
        have h1 := HT.out _ (show ts[j]! ∈ ts by rw [getElem!_pos ts j hlt]; exact List.getElem_mem hlt)
        unfold maxLen
        omega
      have HS := Lib.hid (asked_succ ts hlt)
      generalize ts[j]! = s at *
      have hkey : keyOf Try.prog 9 (.string s) = some (kS s) := WideMaps.keyOf_string_mk Try.underlying9 hsz
      clear hZ hsz
      unfold Ask at hask
      go_wp2_with (at_mapUpdate; refine wpList_mapUpdate_own _ rfl _ _ _ 76 rfl 9 77 lawS Try.underlying76 _ w.heap.size j _ rfl hask (by unfold maxLen; omega) _ _ _ rfl rfl hkey (.agg []) [] unitElem_mk ?_; intro w1 hown1 hgrow1)
      go_roundw
      case rel => exact ⟨j + 1, by omega, by go_num, by rw [HS.out]; exact hown1, hbr.grown hgrow1 hbr.size (fun r hr => by obtain rfl := Option.some.inj hr; exact Nat.le_refl _)⟩
      case measure =>
        simp only [intOf]
        omega
    · have : j = ts.length := by omega
      subst this
      rw [List.take_length] at hask
      rcases HQ.out.own with ⟨rfl, rfl⟩ | ⟨b, rfl, ho⟩
      · have c0 := (HQ.out.below hbr).cel.cell 0 _ rfl
        have hrg := run_range_nilMap (P := Try.prog) wr _ _ _ Try.underlying24
        have hnx : ∀ ty, (Instr.next (.pointer (some ⟨wr.heap.size, 0, none⟩)) false ty).run Try.prog (wr.alloc (.mapIter none 0 #[] 0)) = _ := fun ty => run_next_nilMap wr ty 0 0 #[]
        clear hask
        go_wp2
        refine wp_loop_rounds 1 ?_
        rw [rounds_succ]
        go_wp2
        go_ret
        exact ⟨⟨none, 0, 0, [], rfl, own_nil tκ (by decide) _ _ _, by simp⟩, hbr.alloc hbr.size _⟩
      · have c0 := (HQ.out.below hbr).cel.cell 0 _ rfl
        have hor : Owns wr b l := (Kp.of_below (fun _ => False) hbr (Nat.le_refl _)).owns ho id
        have hbl := ho.lt
        have hal := World.ownsMap.lt hask
        unfold Owns at hor
        go_wp2_with (at_range; refine wpList_range_own _ rfl _ 24 rfl 3 38 law Try.underlying24 _ b l.length _ rfl hor ?_; intro w0 hrg0 hg0 hs0)
        go_frame
        have HA0 := Lib.hid (World.ownsMap.kept hask hg0 (by simp))
        have HB0 := Lib.hid (hbr.grown hg0 hbr.size (fun _ e => by cases e))
        clear hask hbr c0 hor
        have hr2 : wr.heap.size + 1 ≤ w0.heap.size := by omega
        clear hs0 hg0
        generalize wr.heap.size = r at *
        go_loopw [8] (fun s wr => ∃ (done : List T) (A : Option Addr) (n c : Nat) (left : Lit → Bool) (cnt : Nat), s = .slice A n c ∧ OwnK tκ wr (r + 1) 38 A n c (done.filter fun x => asks ts x.top) ∧ wr.ranges Try.prog 3 taskR b r l.length (mapD l) left cnt ∧ Ask wr w.heap.size ts.length (asked ts) ∧ Below w.heap.size w wr ∧ Seen l done left cnt ∧ r + 1 ≤ wr.heap.size) (fun _ wr => wr.rangeLeft b r)
        case atStart => exact ⟨[], none, 0, 0, _, _, rfl, own_nil tκ (by decide) _ _ _, hrg0, HA0.out, HB0.out, Seen.start l, hr2⟩
        case round =>
          obtain ⟨done, A1, n1, c1, left, cnt, rfl, hown, hrg, hask, hbr, hseen, hr3⟩ := hrel
          have HOWN := Lib.hid hown
          have HRG := Lib.hid hrg
          have HASK := Lib.hid hask
          have HBR := Lib.hid hbr
          have HSEEN := Lib.hid hseen
          clear hown hask hbr hseen
          go_wp2_with (at_next; refine wpList_next_tasks _ rfl _ rfl b r l.length l left cnt rfl hrg ?_ ?_)
          · intro hc0 hl0
            go_wp2
            go_ret
            exact ⟨⟨A1, n1, c1, _, rfl, HOWN.out.lower (by omega), (HSEEN.out.all HQ.out.asc hl0).filter _⟩, HBR.out⟩
          · intro x w1 cnt1 hmem hlk hrg1 hlt1 hg1 hs1 hen
            clear hrg
            have HS1 := Lib.hid (HSEEN.out.step HQ.out.asc hmem hlk hlt1)
            have hown1 := HOWN.out.kept hg1 (fun a ha e => by have := (HOWN.out.block ha).1; have h2 : r = a.block := Option.some.inj e; omega)
            have hask1 := World.ownsMap.kept HASK.out hg1 (fun e => by have h2 : w.heap.size = r := Option.some.inj e; omega)
            have hbr1 := HBR.out.grown hg1 HBR.out.size (fun k hk => by obtain rfl := Option.some.inj hk; omega)
            have hba : Below w1.heap.size w1 (w1.alloc (.cells x.cells.toArray 38)) := (Below.refl _ _).alloc (Nat.le_refl _) _
            have hta : Cel (w1.alloc (.cells x.cells.toArray 38)) w1.heap.size x.cells := Cel.lit w1 x.cells.toArray 38
            have HOWNa := Lib.hid (hown1.below hba (Nat.le_refl _))
            have HRGa := Lib.hid (hrg1.alloc (.cells x.cells.toArray 38))
            have hask2 := World.ownsMap.alloc hask1 (.cells x.cells.toArray 38)
            have HBRa := Lib.hid (hbr1.trans (hba.mono hbr1.size))
            have hr4 : r + 1 ≤ (w1.alloc (.cells x.cells.toArray 38)).heap.size := by have := hba.size; omega
            have HLT := Lib.hid (show cnt1 < wr.rangeLeft b r by rw [HRG.out.left_eq]; exact hlt1)
            have htop := (HQ.out.wf x hmem).2
            obtain ⟨B, hB⟩ : ∃ B, asks ts x.top = B := ⟨_, rfl⟩
            have HF : Hid ((done ++ [x]).filter (fun x => asks ts x.top) = if B then done.filter (fun x => asks ts x.top) ++ [x] else done.filter (fun x => asks ts x.top)) := by
              show _ = _
              rw [List.filter_append, List.filter_cons, hB]
              cases B <;> simp
            have HMEM := Lib.hid hmem
            have hnl : (done.filter fun x => asks ts x.top).length ≤ 100000 := by
              have h1 := HSEEN.out.cnt
              have h2 := HL.out
              have h3 := List.length_filter_le (fun x : T => asks ts x.top) done
              omega
            have hnn : n1 ≤ 1000000 := by rw [← HOWN.out.len]; omega
            clear hown1 hrg1 hask1 hbr1 hba hmem hlk hlt1 hg1 hs1 HOWN HASK HSEEN HBR hnl
            unfold T.cells at *
            go_upto_region 11 with (fail)
            generalize w1.alloc _ = wa at *
            obtain ⟨⟨k0, k1, k2, k3, k4, k5, k6, k7, k8, k9, k10, k11⟩, _⟩ := Ls.dz_facts hta
            have hb2 : Below wa.heap.size wa (wa.alloc (.cells #[] 77)) := (Below.refl _ _).alloc (Nat.le_refl _) _
            have HOWNb := Lib.hid (HOWNa.out.below hb2 (Nat.le_refl _))
            have HRGb := Lib.hid (HRGa.out.alloc (.cells #[] 77))
            have HASKb := Lib.hid (World.ownsMap.alloc hask2 (.cells #[] 77))
            have HBRb := Lib.hid (HBRa.out.trans (hb2.mono HBRa.out.size))
            have htb := hta.below hb2 (Nat.le_refl _)
            have hr5 : r + 1 ≤ (wa.alloc (.cells #[] 77)).heap.size := by have := hb2.size; omega
            cases B with
            | false =>
              go_wp2_with (at_lookup; refine wpList_lookup_asked _ rfl _ _ rfl w.heap.size ts.length ts x.top false rfl hask2 rfl htop hB ?_)
              go_roundw
              case rel => exact ⟨done ++ [x], A1, n1, c1, _, cnt1, rfl, by rw [HF.out]; exact HOWNb.out, HRGb.out, HASKb.out, HBRb.out, HS1.out, hr5⟩
              case measure => rw [HRGb.out.left_eq]; exact HLT.out
            | true =>
              clear k0 k1 k2 k3 k5 k6 k7 k8 k9 k10 k11
              obtain ⟨⟨j0, j1, j2, j3, j4, j5, j6, j7, j8, j9, j10, j11⟩, _⟩ := Ls.dz_facts htb
              have hb3 : Below (wa.alloc (.cells #[] 77)).heap.size (wa.alloc (.cells #[] 77)) ((wa.alloc (.cells #[] 77)).alloc (.cells x.cells.toArray 38)) := (Below.refl _ _).alloc (Nat.le_refl _) _
              have HOWNc := Lib.hid (HOWNb.out.below hb3 (Nat.le_refl _))
              have HRGc := Lib.hid (HRGb.out.alloc (.cells x.cells.toArray 38))
              have HASKc := Lib.hid (World.ownsMap.alloc HASKb.out (.cells x.cells.toArray 38))
              have HBRc := Lib.hid (HBRb.out.trans (hb3.mono HBRb.out.size))
              have hR := KRow.lit (κ := tκ) (wa.alloc (.cells #[] 77)) 38 [x] x.cells.toArray (by simp [tκ])
              have hsz : (wa.alloc (.cells #[] 77)).heap.size = wa.heap.size + 1 := by simp
              have hr6 : r + 1 ≤ ((wa.alloc (.cells #[] 77)).alloc (.cells x.cells.toArray 38)).heap.size := by have := hb3.size; omega
              rw [hsz] at hR
              have HR := Lib.hid hR
              have HR6 := Lib.hid hr6
              clear hb2 hb3 hR hsz hr5 hr6 htb hta
              unfold T.cells at *
              go_wp2_with (first
                | (at_lookup; refine wpList_lookup_asked _ rfl _ _ rfl w.heap.size ts.length ts x.top true rfl hask2 rfl htop hB ?_)
                | (at_builtin; refine append_k (κ := tκ) rfl (.tmp 43) (.tmp 45) 28 38 i0 _ 112 Try.underlying28 hi0 hz0 hz1 hz2 rfl rfl _ (r + 1) _ A1 n1 c1 _ ⟨wa.heap.size + 1, 0, none⟩ x rfl HOWNc.out rfl HR.out hnn (by decide) HR6.out ?_; intro A2 c2 w2 ho2 hg2))
              have hbr2 := HRGc.out.kept hg2.grown (own_ne (q := b) HOWNc.out (by omega)).symm (own_ne (q := r) HOWNc.out (by omega)).symm
              go_roundw
              case rel => exact ⟨done ++ [x], A2, n1 + 1, c2, _, cnt1, rfl, by rw [HF.out]; exact ho2, hbr2, World.ownsMap.kept HASKc.out hg2.grown (own_ne (q := w.heap.size) HOWNc.out (by omega)).symm, HBRc.out.grown hg2.grown HBRc.out.size (fun k hk => by obtain ⟨a, ha, hb⟩ := blkof hk; have := (HOWNc.out.block ha).1; omega), HS1.out, Nat.le_trans HR6.out hg2.grown.size⟩
              case measure => rw [hbr2.left_eq]; exact HLT.out
end Qu
end Go.Proofs.Ytglmhpmiphkjlaa
