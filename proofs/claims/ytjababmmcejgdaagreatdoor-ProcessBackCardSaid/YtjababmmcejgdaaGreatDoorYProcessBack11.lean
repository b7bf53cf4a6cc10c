/- Package cond in memory: a parser in its block, conditions in blocks of their own, the errors that it tells. The program's withoutPlace. Walks of package num: Put. -/
import Derived.Test.YtjababmmcejgdaaGreatDoorYProcessBack6
import Derived.Test.YtjababmmcejgdaaGreatDoorYProcessBack14
import Derived.Test.YtjababmmcejgdaaGreatDoorYProcessBack8
import Derived.Test.YtjababmmcejgdaaGreatDoorAs
namespace Go.Proofs.YtjababmmcejgdaaGreatDoor
open Go.RowKit

/-- The sentinels that cond tells. -/
structure CoErrs (W : World) (E : Int → Option Addr) : Prop where
  e105 : ErrIn W E 105 4
  e111 : ErrIn W E 111 6
  e112 : ErrIn W E 112 12
  words : ∀ i : Nat, i < 18 → W.cell? ⟨17, i, none⟩ = some (.string ⟨(Co.words[i]!).toArray⟩)
theorem CoErrs.below {W w : World} {E : Int → Option Addr} (h : CoErrs W E) (hb : Below W.heap.size W w) : CoErrs w E :=
  ⟨h.e105.below hb, h.e111.below hb, h.e112.below hb, fun i hi => below_cells hb (h.words i hi)⟩

/-- A condition as the program holds it: its six cells. -/
structure Ex where
  op : Int
  kind : Int
  num : Int
  txt : ByteArray
  name : ByteArray
  A : Option Addr
  n : Nat
  c : Nat
def Ex.val (x : Ex) : Value := .agg #[.int .i64 x.op, .int .i64 x.kind, .int .i64 x.num, .string x.txt, .string x.name, .slice x.A x.n x.c]
open Co in
/-- The condition t lies there; each of its blocks is one of N. -/
def At (w : World) (N : Nat → Prop) : Tr → Ex → Prop
  | .leaf op kind num txt name, x => x = ⟨op, kind, num, ⟨txt.toArray⟩, ⟨name.toArray⟩, none, 0, 0⟩
  | .one op a, x => ∃ b y, x = ⟨op, 0, 0, ⟨#[]⟩, ⟨#[]⟩, some ⟨b, 0, none⟩, 1, 1⟩ ∧ N b ∧
      w.heap[b]? = some (.cells #[.int .i64 y.op, .int .i64 y.kind, .int .i64 y.num, .string y.txt, .string y.name, .slice y.A y.n y.c] 100 (0, 0)) ∧ At w N a y
  | .two op a c, x => ∃ b y z, x = ⟨op, 0, 0, ⟨#[]⟩, ⟨#[]⟩, some ⟨b, 0, none⟩, 2, 2⟩ ∧ N b ∧
      w.heap[b]? = some (.cells #[.int .i64 y.op, .int .i64 y.kind, .int .i64 y.num, .string y.txt, .string y.name, .slice y.A y.n y.c, .int .i64 z.op, .int .i64 z.kind, .int .i64 z.num, .string z.txt, .string z.name, .slice z.A z.n z.c] 100 (0, 0)) ∧ At w N a y ∧ At w N c z
/-- Kept, where what changes is none of its blocks. -/
theorem At.kept {w w' : World} {N N' : Nat → Prop} {row : Option Nat} (hg : w.grownBy w' row) (hN : ∀ b, N b → b < w.heap.size → row ≠ some b ∧ N' b) : ∀ {t : Co.Tr} {x : Ex}, At w N t x → At w' N' t x
  | .leaf .., _, h => h
  | .one _ _, _, ⟨b, y, hx, hb, hh, ha⟩ => ⟨b, y, hx, (hN b hb (blk_lt hh)).2, (hg.block b (blk_lt hh) (fun e => (hN b hb (blk_lt hh)).1 e.symm)).trans hh, At.kept hg hN ha⟩
  | .two _ _ _, _, ⟨b, y, z, hx, hb, hh, ha, hc⟩ => ⟨b, y, z, hx, (hN b hb (blk_lt hh)).2, (hg.block b (blk_lt hh) (fun e => (hN b hb (blk_lt hh)).1 e.symm)).trans hh, At.kept hg hN ha, At.kept hg hN hc⟩
theorem At.below {w w' : World} {N : Nat → Prop} {t : Co.Tr} {x : Ex} (h : At w N t x) {B : Nat} (hb : Below B w w') (hB : w.heap.size ≤ B) : At w' N t x :=
  At.kept (grown_none hb hB) (fun _ h _ => ⟨by simp, h⟩) h
theorem At.alloc {w : World} {N : Nat → Prop} {t : Co.Tr} {x : Ex} (h : At w N t x) (o : Obj) : At (w.alloc o) N t x := At.kept (grown_alloc w o none) (fun _ h _ => ⟨by simp, h⟩) h
theorem At.mono {w : World} {N N' : Nat → Prop} {t : Co.Tr} {x : Ex} (h : At w N t x) (hN : ∀ b, N b → b < w.heap.size → N' b) : At w N' t x :=
  At.kept (World.grownBy.refl w none) (fun b h hl => ⟨by simp, hN b h hl⟩) h

/-- The parser's error. -/
def ErrSt (E : Int → Option Addr) (w : World) (ev : Value) : Option (Int × Nat) → Prop
  | none => ev = .nilIface
  | some (c, k) => ∃ b a, ev = atV b ∧ E c = some a ∧ c ≠ 0 ∧ w.heap[b]? = some (.cells #[.int .i64 (k : Int), errV a] 67 (0, 0))
theorem ErrSt.kept {E : Int → Option Addr} {w w' : World} {ev : Value} {r : Option (Int × Nat)} (h : ErrSt E w ev r) {z : Nat} (hg : w.grownBy w' (some z)) (hz : ∃ k v, w.cell? ⟨z, 1, none⟩ = some (.int k v)) : ErrSt E w' ev r := by
  cases r with
  | none => exact h
  | some x =>
    obtain ⟨c, k⟩ := x
    obtain ⟨b, a, h1, h2, h3, hb⟩ := h
    refine ⟨b, a, h1, h2, h3, (hg.block b (blk_lt hb) (fun e => ?_)).trans hb⟩
    obtain rfl := Option.some.inj e
    obtain ⟨k', v, hk⟩ := hz
    have := cell_of_row w b 1 _ _ (0, 0) hb
    rw [hk] at this
    unfold errV at this
    simp at this
theorem ErrSt.below {E : Int → Option Addr} {w w' : World} {ev : Value} {r : Option (Int × Nat)} (h : ErrSt E w ev r) {B : Nat} (hb : Below B w w') (hB : w.heap.size ≤ B) : ErrSt E w' ev r := by
  cases r with
  | none => exact h
  | some x =>
    obtain ⟨c, k⟩ := x
    obtain ⟨b, a, h1, h2, h3, hh⟩ := h
    exact ⟨b, a, h1, h2, h3, (hb.block b (Nat.lt_of_lt_of_le (blk_lt hh) hB)).trans hh⟩
/-- The parser in block q, at st, inside d. -/
structure PaC (E : Int → Option Addr) (w : World) (q : Nat) (s : ByteArray) (st : Co.St) (d : Nat) : Prop where
  ex : ∃ ev, Cel w q [.string s, .int .i64 (st.kind : Int), .int .i64 (st.frm : Int), .int .i64 (st.till : Int), .int .i64 (d : Int), ev] ∧ ErrSt E w ev st.err
  ord : st.frm ≤ st.till
  top : st.till ≤ s.size
  size : s.size ≤ 80
section
variable {E : Int → Option Addr} {w w' : World} {q d : Nat} {s : ByteArray} {st : Co.St}
theorem PaC.lt (h : PaC E w q s st d) : q < w.heap.size := by
  obtain ⟨_, hc, _⟩ := h.ex
  exact hc.lt
theorem PaC.below (h : PaC E w q s st d) {B : Nat} (hb : Below B w w') (hB : w.heap.size ≤ B) : PaC E w' q s st d := by
  obtain ⟨ev, hc, he⟩ := h.ex
  exact ⟨⟨ev, hc.below hb hB, he.below hb hB⟩, h.ord, h.top, h.size⟩
theorem PaC.alloc (h : PaC E w q s st d) (o : Obj) : PaC E (w.alloc o) q s st d := h.below ((Below.refl w.heap.size w).alloc (Nat.le_refl _) o) (Nat.le_refl _)
theorem PaC.drewN (h : PaC E w q s st d) (n : Nat) : PaC E (w.drewN n) q s st d := h.below (below_drewN (Below.refl w.heap.size w) n) (Nat.le_refl _)
/-- Kept, where another block is written. -/
theorem PaC.other (h : PaC E w q s st d) {z : Nat} (hg : w.grownBy w' (some z)) (hne : z ≠ q) (hz : ∃ k v, w.cell? ⟨z, 1, none⟩ = some (.int k v)) : PaC E w' q s st d := by
  obtain ⟨ev, hc, he⟩ := h.ex
  exact ⟨⟨ev, hc.kept hg (fun e => hne (Option.some.inj e)), he.kept hg hz⟩, h.ord, h.top, h.size⟩
end
/-- One part of the parser, function g, inside d: what it is called with, what it leaves. -/
def PartC (E : Int → Option Addr) (W : World) (q : Nat) (s : ByteArray) (g d : Nat) (f : Co.St → Co.Out) : Prop :=
  ∀ st e st', f st = some (e, st') → ∀ w, Below W.heap.size W w → PaC E w q s st d →
    Calls Tryz.prog g #[.pointer (some ⟨q, 0, none⟩)] w fun x w' => (∃ y, x = .returned (Ex.val y) ∧ At w' (fun b => w.heap.size ≤ b) e y) ∧ PaC E w' q s st' d ∧ w.grownBy w' (some q)
end Go.Proofs.YtjababmmcejgdaaGreatDoor
namespace Go.Proofs.YtjababmmcejgdaaGreatDoor
open Go.RowKit

/-- The type 'error' as errors.As holds it. -/
def ErrTy (w : World) : Prop := w.cell? ⟨7, 0, none⟩ = some (.iface 162 (.agg #[.pointer (some ⟨26, 33, none⟩)]))
theorem ErrTy.below {w w' : World} (h : ErrTy w) (hb : Below w.heap.size w w') : ErrTy w' := below_cells hb h
set_option maxHeartbeats 800000 in
theorem wop_nil (w : World) : Calls Tryz.prog 58 #[.nilIface] w fun e w' => e = .returned .nilIface ∧ Below w.heap.size w w' := by
  have HB := Lib.hid ((Below.refl w.heap.size w).alloc (Nat.le_refl _) (.cells #[.pointer none] 65))
  go_enter Tryz.func58, Tryz.ntmps58
  go_wp2_with (go_at_call 79; refine (as_nil _ _).mono ?_; rintro e w' ⟨rfl, rfl⟩)
  go_ret
  exact ⟨rfl, HB.out⟩
set_option maxHeartbeats 1600000 in
theorem wop_at (w : World) (b : Nat) (k : Int) (v : Value) (hT : ErrTy w) (hb : w.heap[b]? = some (.cells #[.int .i64 k, v] 67 (0, 0))) :
    Calls Tryz.prog 58 #[.iface 65 (.pointer (some ⟨b, 0, none⟩))] w fun e w' => e = .returned v ∧ Below w.heap.size w w' := by
  have hbl : b < w.heap.size := blk_lt hb
  have hba : Below w.heap.size w (w.alloc (.cells #[.pointer none] 65)) := (Below.refl w.heap.size w).alloc (Nat.le_refl _) _
  have hTa := hT.below hba
  have hta : (w.alloc (.cells #[.pointer none] 65)).cell? ⟨w.heap.size, 0, none⟩ = some (.pointer none) := by simp
  have hfa : (w.alloc (.cells #[.pointer none] 65)).frozen? ⟨w.heap.size, 0, none⟩ = false := by simp
  have hb1 : (w.alloc (.cells #[.pointer none] 65)).heap[b]? = some (.cells #[.int .i64 k, v] 67 (0, 0)) := (hba.block b hbl).trans hb
  have HH := Lib.hid (as_hit ⟨b, 0, none⟩ ⟨w.heap.size, 0, none⟩ (.pointer none) _ hTa hta hfa)
  have HBA := Lib.hid hba
  have HB1 := Lib.hid hb1
  have hw1 : w.heap.size < (w.alloc (.cells #[.pointer none] 65)).heap.size := by simp
  clear hT hb hba hTa hta hfa hb1
  go_enter Tryz.func58, Tryz.ntmps58
  go_upto_region 2 with (fail)
  generalize hwa : w.alloc _ = wa at *
  go_upto_region 3 with (go_at_call 79; refine HH.out.mono ?_; rintro e w' ⟨rfl, hw'⟩)
  have hbb : Below wa.heap.size wa ((((wa.alloc (.cells #[.pointer (some ⟨w.heap.size, 0, none⟩)] 131)).alloc (.cells #[.pointer (some ⟨26, 131, none⟩), .pointer (some ⟨wa.heap.size, 0, none⟩), .int .u64 150] 148)).alloc (.cells #[.pointer (some ⟨26, 131, none⟩), .pointer (some ⟨wa.heap.size, 0, none⟩), .int .u64 150] 148)).alloc (.cells #[.pointer (some ⟨b, 0, none⟩)] 65)) :=
    ((((Below.refl _ _).alloc (Nat.le_refl _) _).alloc (by simp) _).alloc (by simp; omega) _).alloc (by simp; omega) _
  generalize (((wa.alloc _).alloc _).alloc _).alloc _ = wx at *
  subst hw'
  have hbs := HBA.out.trans ((hbb.mono HBA.out.size).setCell (p := ⟨w.heap.size, 0, none⟩) (Nat.le_refl _) (.pointer (some ⟨b, 0, none⟩)))
  have c0 : (wx.setCell ⟨w.heap.size, 0, none⟩ (.pointer (some ⟨b, 0, none⟩))).cell? ⟨w.heap.size, 0, none⟩ = some (.pointer (some ⟨b, 0, none⟩)) := by
    have h0 : wx.cell? ⟨w.heap.size, 0, none⟩ = some (.pointer none) := (hbb.cell (p := ⟨w.heap.size, 0, none⟩) hw1).trans (by rw [← hwa]; simp)
    exact World.cell?_setCell_same _ _ _ h0
  have c1 : (wx.setCell ⟨w.heap.size, 0, none⟩ (.pointer (some ⟨b, 0, none⟩))).cell? ⟨b, 1, none⟩ = some v := by
    have hne : (⟨w.heap.size, 0, none⟩ : Addr) ≠ ⟨b, 1, none⟩ := by intro h; cases h
    rw [World.cell?_setCell_other _ _ _ _ hne]
    refine (hbb.cell (p := ⟨b, 1, none⟩) (Nat.lt_trans hbl hw1)).trans ?_
    exact cell_of_row wa b 1 #[.int .i64 k, v] 67 (0, 0) HB1.out
  have HBS := Lib.hid hbs
  clear hbb hbs hwa
  generalize wx.setCell _ _ = wy at *
  go_wp2
  go_ret
  exact ⟨rfl, HBS.out⟩
end Go.Proofs.YtjababmmcejgdaaGreatDoor
namespace Go.Proofs.YtjababmmcejgdaaGreatDoor
open Go.RowKit

/-- Numbers in bytes. -/
def encs (ns : List Int) : List UInt8 := ns.flatMap fun n => enc (zig n)
theorem encs_take (ns : List Int) (k : Nat) (h : k < ns.length) : encs (ns.take (k + 1)) = encs (ns.take k) ++ enc (zig ns[k]) := by
  rw [List.take_succ_eq_append_getElem h]
  simp only [encs, List.flatMap_append, List.flatMap_cons, List.flatMap_nil, List.append_nil]
theorem encs_len (ns : List Int) (h : ∀ n ∈ ns, -9223372036854775808 ≤ n ∧ n ≤ 9223372036854775807) : (encs ns).length ≤ 10 * ns.length := by
  induction ns with
  | nil => simp [encs]
  | cons n ns ih =>
    have h1 := enc_len10 (zig_lt (h n (by simp)).1 (h n (by simp)).2)
    have h2 := ih fun x hx => h x (List.mem_cons_of_mem _ hx)
    simp only [encs, List.flatMap_cons, List.length_append, List.length_cons] at h2 ⊢
    omega
theorem mem_take {α : Type} {l : List α} {k : Nat} {x : α} (h : x ∈ l.take k) : x ∈ l := List.mem_of_mem_take h

set_option maxHeartbeats 800000 in
theorem put_any (A : Option Addr) (m c : Nat) (l : List UInt8) (D : Option Addr) (k0 d : Nat) (ns : List Int) (w : World) (hr : Bytes w w.heap.size A m l) (hA : A = none → m = 0 ∧ c = 0) (hm : m ≤ 17592186044416)
    (hns : Row w w.heap.size D k0 (ns.map (Value.int .i64))) (hk : k0 ≤ 1099511627776) (hb : ∀ n ∈ ns, -9223372036854775808 ≤ n ∧ n ≤ 9223372036854775807) :
    Calls Tryz.prog 41 #[.slice A m c, .slice D k0 d] w fun e w' => ∃ A' m' c', e = .returned (.slice A' m' c') ∧ OwnBytes w' w.heap.size 5 A' m' c' (l ++ encs ns) ∧ Below w.heap.size w w' := by
  have hkl : ns.length = k0 := by simpa using hns.len
  go_enter Tryz.func41, Tryz.ntmps41
  go_wp2_with fail
  refine (clone_any A m c l w hr hA (by omega)).mono ?_
  rintro e w1 ⟨A1, c1, rfl, ho1, hb1⟩
  go_wp2_with fail
  go_loopw [5, 12] (fun v i wr => ∃ j : Nat, j ≤ k0 ∧ i = .int .i64 j ∧ ∃ A2 m2 c2, v = .slice A2 m2 c2 ∧ OwnBytes wr w.heap.size 5 A2 m2 c2 (l ++ encs (ns.take j)) ∧ Below w.heap.size w wr) (fun _ i _ => k0 - (intOf i).toNat)
  case atStart => exact ⟨0, Nat.zero_le _, rfl, A1, m, c1, rfl, by simpa [encs] using ho1, hb1⟩
  case round =>
    obtain ⟨j, hj, rfl, A2, m2, c2, rfl, ho2, hb2⟩ := hrel
    by_cases hlt : j < k0
    · obtain ⟨b, off, rfl, hbb, hc⟩ := (hns.below hb2 (Nat.le_refl _)).at_ hlt
      have hj' : j < ns.length := by omega
      have hH := Lib.hid (encs_take ns j hj')
      have hbd := hb ns[j] (List.getElem_mem hj')
      have hl2 := ho2.len
      have hlen := encs_len (ns.take j) fun x hx => hb x (mem_take hx)
      have hml := hr.len
      rw [List.length_append] at hl2
      rw [List.length_take] at hlen
      rw [List.getElem_map] at hc
      generalize ns[j]'hj' = x at *
      go_wp2_with fail
      refine (appendNumber_any A2 m2 c2 _ x _ w.heap.size hbd.1 hbd.2 ho2 hb2.size (by omega)).mono ?_
      rintro e w3 ⟨A3, c3, rfl, ho3, hg3⟩
      go_wp2
      go_roundw
      case measure => simp [intOf]; omega
      case rel =>
        refine ⟨j + 1, by omega, by go_num, A3, _, c3, rfl, ?_, below_grew hb2 hg3 ho2 (Nat.le_refl _)⟩
        rw [hH.out, ← List.append_assoc]
        exact ho3
    · have hje : ns.take j = ns := List.take_of_length_le (by omega)
      rw [hje] at ho2
      go_wp2
      go_ret
      exact ⟨A2, m2, c2, rfl, ho2, hb2⟩

end Go.Proofs.YtjababmmcejgdaaGreatDoor
