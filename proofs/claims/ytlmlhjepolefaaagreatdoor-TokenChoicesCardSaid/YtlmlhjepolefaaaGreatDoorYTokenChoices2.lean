/- Package cond in memory: a parser in its block, conditions in blocks of their own, the errors that it tells. Contracts of the library's shelf at this program: which function is which, compared by the kernel. Walks of package cond: what a word is. Walks of package cond: what a word of letters, digits and _ is; a bracket's or operator's length. -/
import Derived.Test.YtlmlhjepolefaaaGreatDoorYTokenChoices14
import Derived.Test.YtlmlhjepolefaaaGreatDoorYTokenChoices13
import Derived.Test.YtlmlhjepolefaaaGreatDoorYTokenChoices8
import Derived.Ground.NamesProg
import Derived.Shelf.Strings.SlTrimAscii
import Derived.Shelf.Small.Strs
import Derived.Shelf.Strconv.ParseIntPublic10
import Derived.Test.YtlmlhjepolefaaaGreatDoorProg
namespace Go.Proofs.YtlmlhjepolefaaaGreatDoor
open Go.RowKit

/-- The sentinels that cond tells. -/
structure CoErrs (W : World) (E : Int → Option Addr) : Prop where
  e105 : ErrIn W E 105 6
  e111 : ErrIn W E 111 11
  e112 : ErrIn W E 112 12
  words : ∀ i : Nat, i < 18 → W.cell? ⟨16, i, none⟩ = some (.string ⟨(Co.words[i]!).toArray⟩)
theorem CoErrs.below {W w : World} {E : Int → Option Addr} (h : CoErrs W E) (hb : Below W.heap.size W w) : CoErrs w E :=
  ⟨h.e105.below hb, h.e111.below hb, h.e112.below hb, fun i hi => below_cells hb (h.words i hi)⟩
structure CoErrsE (W : World) (E : Int → Option Addr) : Prop extends CoErrs W E where
  e108 : ErrIn W E 108 8
  e110 : ErrIn W E 110 10
  e113 : ErrIn W E 113 13
theorem CoErrsE.below {W w : World} {E : Int → Option Addr} (h : CoErrsE W E) (hb : Below W.heap.size W w) : CoErrsE w E :=
  ⟨h.toCoErrs.below hb, h.e108.below hb, h.e110.below hb, h.e113.below hb⟩

/-- A condition as the program holds it: its six cells. -/
structure Ex where
  op : Int
  kind : Int
  num : Int
  txt : ByteArray
  name : ByteArray
  A : Option Addr
  n : Nat
  c : Nat
def Ex.val (x : Ex) : Value := .agg #[.int .i64 x.op, .int .i64 x.kind, .int .i64 x.num, .string x.txt, .string x.name, .slice x.A x.n x.c]
open Co in
/-- The condition t lies there; each of its blocks is one of N. -/
def At (w : World) (N : Nat → Prop) : Tr → Ex → Prop
  | .leaf op kind num txt name, x => x = ⟨op, kind, num, ⟨txt.toArray⟩, ⟨name.toArray⟩, none, 0, 0⟩
  | .one op a, x => ∃ b y, x = ⟨op, 0, 0, ⟨#[]⟩, ⟨#[]⟩, some ⟨b, 0, none⟩, 1, 1⟩ ∧ N b ∧
      w.heap[b]? = some (.cells #[.int .i64 y.op, .int .i64 y.kind, .int .i64 y.num, .string y.txt, .string y.name, .slice y.A y.n y.c] 112 (0, 0)) ∧ At w N a y
  | .two op a c, x => ∃ b y z, x = ⟨op, 0, 0, ⟨#[]⟩, ⟨#[]⟩, some ⟨b, 0, none⟩, 2, 2⟩ ∧ N b ∧
      w.heap[b]? = some (.cells #[.int .i64 y.op, .int .i64 y.kind, .int .i64 y.num, .string y.txt, .string y.name, .slice y.A y.n y.c, .int .i64 z.op, .int .i64 z.kind, .int .i64 z.num, .string z.txt, .string z.name, .slice z.A z.n z.c] 112 (0, 0)) ∧ At w N a y ∧ At w N c z
/-- Kept, where what changes is none of its blocks. -/
theorem At.kept {w w' : World} {N N' : Nat → Prop} {row : Option Nat} (hg : w.grownBy w' row) (hN : ∀ b, N b → b < w.heap.size → row ≠ some b ∧ N' b) : ∀ {t : Co.Tr} {x : Ex}, At w N t x → At w' N' t x
  | .leaf .., _, h => h
  | .one _ _, _, ⟨b, y, hx, hb, hh, ha⟩ => ⟨b, y, hx, (hN b hb (blk_lt hh)).2, (hg.block b (blk_lt hh) (fun e => (hN b hb (blk_lt hh)).1 e.symm)).trans hh, At.kept hg hN ha⟩
  | .two _ _ _, _, ⟨b, y, z, hx, hb, hh, ha, hc⟩ => ⟨b, y, z, hx, (hN b hb (blk_lt hh)).2, (hg.block b (blk_lt hh) (fun e => (hN b hb (blk_lt hh)).1 e.symm)).trans hh, At.kept hg hN ha, At.kept hg hN hc⟩
theorem At.below {w w' : World} {N : Nat → Prop} {t : Co.Tr} {x : Ex} (h : At w N t x) {B : Nat} (hb : Below B w w') (hB : w.heap.size ≤ B) : At w' N t x :=
  At.kept (grown_none hb hB) (fun _ h _ => ⟨by simp, h⟩) h
theorem At.alloc {w : World} {N : Nat → Prop} {t : Co.Tr} {x : Ex} (h : At w N t x) (o : Obj) : At (w.alloc o) N t x := At.kept (grown_alloc w o none) (fun _ h _ => ⟨by simp, h⟩) h
theorem At.mono {w : World} {N N' : Nat → Prop} {t : Co.Tr} {x : Ex} (h : At w N t x) (hN : ∀ b, N b → b < w.heap.size → N' b) : At w N' t x :=
  At.kept (World.grownBy.refl w none) (fun b h hl => ⟨by simp, hN b h hl⟩) h

/-- The parser's error. -/
def ErrSt (E : Int → Option Addr) (w : World) (ev : Value) : Option (Int × Nat) → Prop
  | none => ev = .nilIface
  | some (c, k) => ∃ b a, ev = atV b ∧ E c = some a ∧ c ≠ 0 ∧ w.heap[b]? = some (.cells #[.int .i64 (k : Int), errV a] 100 (0, 0))
theorem ErrSt.kept {E : Int → Option Addr} {w w' : World} {ev : Value} {r : Option (Int × Nat)} (h : ErrSt E w ev r) {z : Nat} (hg : w.grownBy w' (some z)) (hz : ∃ k v, w.cell? ⟨z, 1, none⟩ = some (.int k v)) : ErrSt E w' ev r := by
  cases r with
  | none => exact h
  | some x =>
    obtain ⟨c, k⟩ := x
    obtain ⟨b, a, h1, h2, h3, hb⟩ := h
    refine ⟨b, a, h1, h2, h3, (hg.block b (blk_lt hb) (fun e => ?_)).trans hb⟩
    obtain rfl := Option.some.inj e
    obtain ⟨k', v, hk⟩ := hz
    have := cell_of_row w b 1 _ _ (0, 0) hb
    rw [hk] at this
    unfold errV at this
    simp at this
theorem ErrSt.below {E : Int → Option Addr} {w w' : World} {ev : Value} {r : Option (Int × Nat)} (h : ErrSt E w ev r) {B : Nat} (hb : Below B w w') (hB : w.heap.size ≤ B) : ErrSt E w' ev r := by
  cases r with
  | none => exact h
  | some x =>
    obtain ⟨c, k⟩ := x
    obtain ⟨b, a, h1, h2, h3, hh⟩ := h
    exact ⟨b, a, h1, h2, h3, (hb.block b (Nat.lt_of_lt_of_le (blk_lt hh) hB)).trans hh⟩
/-- The parser in block q, at st, inside d. -/
structure PaC (E : Int → Option Addr) (w : World) (q : Nat) (s : ByteArray) (st : Co.St) (d : Nat) : Prop where
  ex : ∃ ev, Cel w q [.string s, .int .i64 (st.kind : Int), .int .i64 (st.frm : Int), .int .i64 (st.till : Int), .int .i64 (d : Int), ev] ∧ ErrSt E w ev st.err
  ord : st.frm ≤ st.till
  top : st.till ≤ s.size
  size : s.size ≤ 80
section
variable {E : Int → Option Addr} {w w' : World} {q d : Nat} {s : ByteArray} {st : Co.St}
theorem PaC.lt (h : PaC E w q s st d) : q < w.heap.size := by
  obtain ⟨_, hc, _⟩ := h.ex
  exact hc.lt
theorem PaC.below (h : PaC E w q s st d) {B : Nat} (hb : Below B w w') (hB : w.heap.size ≤ B) : PaC E w' q s st d := by
  obtain ⟨ev, hc, he⟩ := h.ex
  exact ⟨⟨ev, hc.below hb hB, he.below hb hB⟩, h.ord, h.top, h.size⟩
theorem PaC.alloc (h : PaC E w q s st d) (o : Obj) : PaC E (w.alloc o) q s st d := h.below ((Below.refl w.heap.size w).alloc (Nat.le_refl _) o) (Nat.le_refl _)
theorem PaC.drewN (h : PaC E w q s st d) (n : Nat) : PaC E (w.drewN n) q s st d := h.below (below_drewN (Below.refl w.heap.size w) n) (Nat.le_refl _)
/-- Kept, where another block is written. -/
theorem PaC.other (h : PaC E w q s st d) {z : Nat} (hg : w.grownBy w' (some z)) (hne : z ≠ q) (hz : ∃ k v, w.cell? ⟨z, 1, none⟩ = some (.int k v)) : PaC E w' q s st d := by
  obtain ⟨ev, hc, he⟩ := h.ex
  exact ⟨⟨ev, hc.kept hg (fun e => hne (Option.some.inj e)), he.kept hg hz⟩, h.ord, h.top, h.size⟩
end
/-- One part of the parser, function g, inside d: what it is called with, what it leaves. -/
def PartC (E : Int → Option Addr) (W : World) (q : Nat) (s : ByteArray) (g d : Nat) (f : Co.St → Co.Out) : Prop :=
  ∀ st e st', f st = some (e, st') → ∀ w, Below W.heap.size W w → PaC E w q s st d →
    Calls Tryz.prog g #[.pointer (some ⟨q, 0, none⟩)] w fun x w' => (∃ y, x = .returned (Ex.val y) ∧ At w' (fun b => w.heap.size ≤ b) e y) ∧ PaC E w' q s st' d ∧ w.grownBy w' (some q)
end Go.Proofs.YtlmlhjepolefaaaGreatDoor
namespace Go.Proofs.YtlmlhjepolefaaaGreatDoor
open Go.Shelf
def shLays106_ren : Go.Shelf.Ren := ⟨fun | 106 => 95 | 213 => 106 | 265 => 118 | n => n, fun | 9 => 9 | 3 => 3 | n => n, fun | n => n⟩
theorem shLays106 : Go.Proofs.Lays.n106 Tryz.prog shLays106_ren := {
  mixed := by kernel_rfl
  f106 := Tryz.func95.trans (congrArg some (by kernel_rfl))
  f213 := Tryz.func106.trans (congrArg some (by kernel_rfl))
  f265 := Tryz.func118.trans (congrArg some (by kernel_rfl))
  t3 := Tryz.underlying3
  a3 := Tryz.isAgg3
  z3 := Tryz.sizeOf3
  v3 := Tryz.zeroValue3
  t9 := Tryz.underlying9
  a9 := Tryz.isAgg9
  z9 := Tryz.sizeOf9
  v9 := Tryz.zeroValue9 }
def shLays137_ren : Go.Shelf.Ren := ⟨fun | 137 => 99 | 217 => 115 | 266 => 123 | n => n, fun | 9 => 9 | 5 => 5 | 3 => 3 | n => n, fun | n => n⟩
theorem shLays137 : Go.Proofs.Lays.n137 Tryz.prog shLays137_ren := {
  mixed := by kernel_rfl
  f137 := Tryz.func99.trans (congrArg some (by kernel_rfl))
  f217 := Tryz.func115.trans (congrArg some (by kernel_rfl))
  f266 := Tryz.func123.trans (congrArg some (by kernel_rfl))
  t3 := Tryz.underlying3
  a3 := Tryz.isAgg3
  z3 := Tryz.sizeOf3
  v3 := Tryz.zeroValue3
  t5 := Tryz.underlying5
  a5 := Tryz.isAgg5
  z5 := Tryz.sizeOf5
  v5 := Tryz.zeroValue5
  t9 := Tryz.underlying9
  a9 := Tryz.isAgg9
  z9 := Tryz.sizeOf9
  v9 := Tryz.zeroValue9 }
def shLays160_ren : Go.Shelf.Ren := ⟨fun | 160 => 97 | 232 => 108 | 231 => 107 | 227 => 109 | 234 => 111 | 233 => 110 | 236 => 113 | 235 => 112 | 228 => 119 | 271 => 122 | 151 => 121 | 197 => 120 | 120 => 127 | 152 => 126 | 260 => 125 | 137 => 99 | 119 => 129 | 224 => 130 | 225 => 131 | 217 => 115 | 266 => 123 | n => n, fun | 9 => 9 | 4 => 4 | 3 => 3 | 5 => 5 | 117 => 155 | 116 => 154 | 0 => 0 | 124 => 158 | 21 => 21 | 105 => 160 | 46 => 55 | 119 => 164 | 139 => 167 | 138 => 166 | n => n, fun | 3 => 18 | 4 => 19 | n => n⟩
theorem shLays160 : Go.Proofs.Lays.n160 Tryz.prog shLays160_ren := {
  mixed := by kernel_rfl
  f119 := Tryz.func129.trans (congrArg some (by kernel_rfl))
  f120 := Tryz.func127.trans (congrArg some (by kernel_rfl))
  f137 := Tryz.func99.trans (congrArg some (by kernel_rfl))
  f151 := Tryz.func121.trans (congrArg some (by kernel_rfl))
  f152 := Tryz.func126.trans (congrArg some (by kernel_rfl))
  f160 := Tryz.func97.trans (congrArg some (by kernel_rfl))
  f197 := Tryz.func120.trans (congrArg some (by kernel_rfl))
  f217 := Tryz.func115.trans (congrArg some (by kernel_rfl))
  f224 := Tryz.func130.trans (congrArg some (by kernel_rfl))
  f225 := Tryz.func131.trans (congrArg some (by kernel_rfl))
  f227 := Tryz.func109.trans (congrArg some (by kernel_rfl))
  f228 := Tryz.func119.trans (congrArg some (by kernel_rfl))
  f231 := Tryz.func107.trans (congrArg some (by kernel_rfl))
  f232 := Tryz.func108.trans (congrArg some (by kernel_rfl))
  f233 := Tryz.func110.trans (congrArg some (by kernel_rfl))
  f234 := Tryz.func111.trans (congrArg some (by kernel_rfl))
  f235 := Tryz.func112.trans (congrArg some (by kernel_rfl))
  f236 := Tryz.func113.trans (congrArg some (by kernel_rfl))
  f260 := Tryz.func125.trans (congrArg some (by kernel_rfl))
  f266 := Tryz.func123.trans (congrArg some (by kernel_rfl))
  f271 := Tryz.func122.trans (congrArg some (by kernel_rfl))
  t0 := Tryz.underlying0
  a0 := Tryz.isAgg0
  z0 := Tryz.sizeOf0
  v0 := Tryz.zeroValue0
  t3 := Tryz.underlying3
  a3 := Tryz.isAgg3
  z3 := Tryz.sizeOf3
  v3 := Tryz.zeroValue3
  t4 := Tryz.underlying4
  a4 := Tryz.isAgg4
  z4 := Tryz.sizeOf4
  v4 := Tryz.zeroValue4
  t5 := Tryz.underlying5
  a5 := Tryz.isAgg5
  z5 := Tryz.sizeOf5
  v5 := Tryz.zeroValue5
  t9 := Tryz.underlying9
  a9 := Tryz.isAgg9
  z9 := Tryz.sizeOf9
  v9 := Tryz.zeroValue9
  t21 := Tryz.underlying21
  a21 := Tryz.isAgg21
  z21 := Tryz.sizeOf21
  v21 := Tryz.zeroValue21
  t46 := Tryz.underlying55
  a46 := Tryz.isAgg55
  z46 := Tryz.sizeOf55
  v46 := Tryz.zeroValue55
  t105 := Tryz.underlying160
  a105 := Tryz.isAgg160
  z105 := Tryz.sizeOf160
  v105 := Tryz.zeroValue160
  t116 := Tryz.underlying154
  a116 := Tryz.isAgg154
  z116 := Tryz.sizeOf154
  t117 := Tryz.underlying155
  a117 := Tryz.isAgg155
  z117 := Tryz.sizeOf155
  v117 := Tryz.zeroValue155
  t119 := Tryz.underlying164
  a119 := Tryz.isAgg164
  z119 := Tryz.sizeOf164
  t124 := Tryz.underlying158
  a124 := Tryz.isAgg158
  z124 := Tryz.sizeOf158
  v124 := Tryz.zeroValue158
  t138 := Tryz.underlying166
  a138 := Tryz.isAgg166
  z138 := Tryz.sizeOf166
  v138 := Tryz.zeroValue166
  t139 := Tryz.underlying167
  a139 := Tryz.isAgg167
  z139 := Tryz.sizeOf167
  v139 := Tryz.zeroValue167
  g3 := by kernel_rfl
  g4 := by kernel_rfl }
def shLaysC174_ren : Go.Shelf.Ren := ⟨fun | 174 => 135 | 247 => 136 | 245 => 137 | 287 => 138 | 279 => 139 | 280 => 140 | 281 => 141 | 282 => 142 | 321 => 143 | 322 => 144 | 316 => 145 | 171 => 147 | 205 => 146 | 243 => 148 | 246 => 149 | 283 => 150 | 284 => 151 | 285 => 152 | 286 => 153 | 129 => 155 | 317 => 154 | 318 => 156 | 319 => 157 | 320 => 158 | 337 => 159 | 338 => 160 | n => n, fun | 9 => 9 | 3 => 3 | 2 => 2 | 75 => 42 | 85 => 169 | 4 => 4 | 167 => 172 | 5 => 5 | 53 => 173 | 175 => 174 | 46 => 55 | 168 => 176 | 37 => 48 | 0 => 0 | 210 => 181 | 21 => 21 | 127 => 184 | 145 => 187 | 143 => 185 | 171 => 189 | 173 => 192 | 212 => 195 | 51 => 196 | 20 => 20 | 213 => 197 | 232 => 200 | 233 => 201 | 80 => 159 | n => n, fun | 15 => 20 | 16 => 21 | 17 => 22 | 18 => 23 | 19 => 24 | n => n⟩
theorem shLaysC174 : Go.Proofs.LaysC.n174 Tryz.prog shLaysC174_ren := {
  mixed := by kernel_rfl
  f129 := Tryz.func155.trans (congrArg some (by kernel_rfl))
  f171 := Tryz.func147.trans (congrArg some (by kernel_rfl))
  f174 := Tryz.func135.trans (congrArg some (by kernel_rfl))
  f205 := Tryz.func146.trans (congrArg some (by kernel_rfl))
  f243 := Tryz.func148.trans (congrArg some (by kernel_rfl))
  f245 := Tryz.func137.trans (congrArg some (by kernel_rfl))
  f246 := Tryz.func149.trans (congrArg some (by kernel_rfl))
  f247 := Tryz.func136.trans (congrArg some (by kernel_rfl))
  f279 := Tryz.func139.trans (congrArg some (by kernel_rfl))
  f280 := Tryz.func140.trans (congrArg some (by kernel_rfl))
  f281 := Tryz.func141.trans (congrArg some (by kernel_rfl))
  f282 := Tryz.func142.trans (congrArg some (by kernel_rfl))
  f283 := Tryz.func150.trans (congrArg some (by kernel_rfl))
  f284 := Tryz.func151.trans (congrArg some (by kernel_rfl))
  f285 := Tryz.func152.trans (congrArg some (by kernel_rfl))
  f286 := Tryz.func153.trans (congrArg some (by kernel_rfl))
  f287 := Tryz.func138.trans (congrArg some (by kernel_rfl))
  f316 := Tryz.func145.trans (congrArg some (by kernel_rfl))
  f317 := Tryz.func154.trans (congrArg some (by kernel_rfl))
  f318 := Tryz.func156.trans (congrArg some (by kernel_rfl))
  f319 := Tryz.func157.trans (congrArg some (by kernel_rfl))
  f320 := Tryz.func158.trans (congrArg some (by kernel_rfl))
  f321 := Tryz.func143.trans (congrArg some (by kernel_rfl))
  f322 := Tryz.func144.trans (congrArg some (by kernel_rfl))
  f337 := Tryz.func159.trans (congrArg some (by kernel_rfl))
  f338 := Tryz.func160.trans (congrArg some (by kernel_rfl))
  t0 := Tryz.underlying0
  a0 := Tryz.isAgg0
  z0 := Tryz.sizeOf0
  v0 := Tryz.zeroValue0
  t2 := Tryz.underlying2
  a2 := Tryz.isAgg2
  z2 := Tryz.sizeOf2
  v2 := Tryz.zeroValue2
  t3 := Tryz.underlying3
  a3 := Tryz.isAgg3
  z3 := Tryz.sizeOf3
  v3 := Tryz.zeroValue3
  t4 := Tryz.underlying4
  a4 := Tryz.isAgg4
  z4 := Tryz.sizeOf4
  v4 := Tryz.zeroValue4
  t5 := Tryz.underlying5
  a5 := Tryz.isAgg5
  z5 := Tryz.sizeOf5
  v5 := Tryz.zeroValue5
  t9 := Tryz.underlying9
  a9 := Tryz.isAgg9
  z9 := Tryz.sizeOf9
  v9 := Tryz.zeroValue9
  t20 := Tryz.underlying20
  a20 := Tryz.isAgg20
  z20 := Tryz.sizeOf20
  v20 := Tryz.zeroValue20
  t21 := Tryz.underlying21
  a21 := Tryz.isAgg21
  z21 := Tryz.sizeOf21
  v21 := Tryz.zeroValue21
  t37 := Tryz.underlying48
  a37 := Tryz.isAgg48
  z37 := Tryz.sizeOf48
  v37 := Tryz.zeroValue48
  t46 := Tryz.underlying55
  a46 := Tryz.isAgg55
  z46 := Tryz.sizeOf55
  v46 := Tryz.zeroValue55
  t51 := Tryz.underlying196
  a51 := Tryz.isAgg196
  z51 := Tryz.sizeOf196
  v51 := Tryz.zeroValue196
  t53 := Tryz.underlying173
  a53 := Tryz.isAgg173
  z53 := Tryz.sizeOf173
  v53 := Tryz.zeroValue173
  t75 := Tryz.underlying42
  a75 := Tryz.isAgg42
  z75 := Tryz.sizeOf42
  v75 := Tryz.zeroValue42
  t85 := Tryz.underlying169
  a85 := Tryz.isAgg169
  z85 := Tryz.sizeOf169
  v85 := Tryz.zeroValue169
  t127 := Tryz.underlying184
  a127 := Tryz.isAgg184
  z127 := Tryz.sizeOf184
  v127 := Tryz.zeroValue184
  t143 := Tryz.underlying185
  a143 := Tryz.isAgg185
  z143 := Tryz.sizeOf185
  v143 := Tryz.zeroValue185
  t145 := Tryz.underlying187
  a145 := Tryz.isAgg187
  z145 := Tryz.sizeOf187
  v145 := Tryz.zeroValue187
  t167 := Tryz.underlying172
  a167 := Tryz.isAgg172
  z167 := Tryz.sizeOf172
  v167 := Tryz.zeroValue172
  t168 := Tryz.underlying176
  a168 := Tryz.isAgg176
  z168 := Tryz.sizeOf176
  v168 := Tryz.zeroValue176
  t171 := Tryz.underlying189
  a171 := Tryz.isAgg189
  z171 := Tryz.sizeOf189
  v171 := Tryz.zeroValue189
  t173 := Tryz.underlying192
  a173 := Tryz.isAgg192
  z173 := Tryz.sizeOf192
  v173 := Tryz.zeroValue192
  t175 := Tryz.underlying174
  a175 := Tryz.isAgg174
  z175 := Tryz.sizeOf174
  v175 := Tryz.zeroValue174
  t210 := Tryz.underlying181
  a210 := Tryz.isAgg181
  z210 := Tryz.sizeOf181
  v210 := Tryz.zeroValue181
  t212 := Tryz.underlying195
  a212 := Tryz.isAgg195
  z212 := Tryz.sizeOf195
  v212 := Tryz.zeroValue195
  t213 := Tryz.underlying197
  a213 := Tryz.isAgg197
  z213 := Tryz.sizeOf197
  t232 := Tryz.underlying200
  a232 := Tryz.isAgg200
  z232 := Tryz.sizeOf200
  v232 := Tryz.zeroValue200
  t233 := Tryz.underlying201
  a233 := Tryz.isAgg201
  z233 := Tryz.sizeOf201
  v233 := Tryz.zeroValue201
  g15 := by kernel_rfl
  g16 := by kernel_rfl
  g17 := by kernel_rfl
  g18 := by kernel_rfl
  g19 := by kernel_rfl
  t80 := Tryz.underlying159
  a80 := Tryz.isAgg159
  z80 := Tryz.sizeOf159
  v80 := Tryz.zeroValue159
  i0 := by kernel_rfl
  i2 := by kernel_rfl
  i3 := by kernel_rfl
  i4 := by kernel_rfl
  i5 := by kernel_rfl
  i9 := by kernel_rfl
  i20 := by kernel_rfl
  i21 := by kernel_rfl
  i37 := by kernel_rfl
  i46 := by kernel_rfl
  i51 := by kernel_rfl
  i53 := by kernel_rfl
  i75 := by kernel_rfl
  i80 := by kernel_rfl
  i85 := by kernel_rfl
  i127 := by kernel_rfl
  i143 := by kernel_rfl
  i145 := by kernel_rfl
  i167 := by kernel_rfl
  i168 := by kernel_rfl
  i171 := by kernel_rfl
  i173 := by kernel_rfl
  i175 := by kernel_rfl
  i210 := by kernel_rfl
  i212 := by kernel_rfl
  i232 := by kernel_rfl
  i233 := by kernel_rfl
  m15 := by kernel_rfl
  m16 := by kernel_rfl
  m17 := by kernel_rfl
  m18 := by kernel_rfl
  m19 := by kernel_rfl
  c0 := by kernel_rfl
  c2 := by kernel_rfl
  c3 := by kernel_rfl
  c4 := by kernel_rfl
  c5 := by kernel_rfl
  c9 := by kernel_rfl
  c20 := by kernel_rfl
  c21 := by kernel_rfl
  c37 := by kernel_rfl
  c46 := by kernel_rfl
  c51 := by kernel_rfl
  c53 := by kernel_rfl
  c75 := by kernel_rfl
  c80 := by kernel_rfl
  c85 := by kernel_rfl
  c127 := by kernel_rfl
  c143 := by kernel_rfl
  c145 := by kernel_rfl
  c167 := by kernel_rfl
  c168 := by kernel_rfl
  c171 := by kernel_rfl
  c173 := by kernel_rfl
  c175 := by kernel_rfl
  c210 := by kernel_rfl
  c212 := by kernel_rfl
  c213 := by kernel_rfl
  c232 := by kernel_rfl
  c233 := by kernel_rfl }
end Go.Proofs.YtlmlhjepolefaaaGreatDoor
namespace Go.Proofs.YtlmlhjepolefaaaGreatDoor
open Go.RowKit

namespace Co
theorem digit_yes {c : UInt8} (h : 48 ≤ (c.toNat : Int) ∧ (c.toNat : Int) ≤ 57) : digit c = true := by unfold digit; simp; omega
theorem digit_no {c : UInt8} (h : ¬ (48 ≤ (c.toNat : Int) ∧ (c.toNat : Int) ≤ 57)) : digit c = false := by
  unfold digit
  rw [Bool.eq_false_iff]
  simp
  omega
theorem trim_digits (l : List UInt8) : (Lib.trimS l [48, 49, 50, 51, 52, 53, 54, 55, 56, 57] = []) ↔ l.all digit = true := by
  have hc : ∀ c : UInt8, ([48, 49, 50, 51, 52, 53, 54, 55, 56, 57] : List UInt8).contains c = digit c := by
    intro c
    have hb := c.toNat_lt
    have h : ∀ k : Fin 256, ([48, 49, 50, 51, 52, 53, 54, 55, 56, 57] : List UInt8).contains (UInt8.ofNat k.val) = digit (UInt8.ofNat k.val) := by decide +kernel
    have := h ⟨c.toNat, hb⟩
    simpa using this
  have hd : ∀ m : List UInt8, m.dropWhile digit = [] ↔ m.all digit = true := by
    intro m
    induction m with
    | nil => simp
    | cons a m ih =>
      cases ha : digit a with
      | true => simpa [List.dropWhile_cons, ha] using ih
      | false => simp [ha]
  unfold Lib.trimS Lib.trimLeftS Lib.trimRightS
  simp only [hc]
  rw [hd, List.all_reverse]
  constructor
  · intro h
    rw [← List.all_reverse]
    have hh : ∀ m : List UInt8, (m.dropWhile digit).all digit = true → m.all digit = true := by
      intro m
      induction m with
      | nil => simp
      | cons a m ih =>
        cases ha : digit a with
        | true => intro h; rw [List.dropWhile_cons_of_pos ha] at h; simp [ha, ih h]
        | false => intro h; rw [List.dropWhile_cons_of_neg (by simp [ha])] at h; exact h
    exact hh _ h
  · intro h
    have : l.reverse.dropWhile digit = [] := (hd _).2 (by rw [List.all_reverse]; exact h)
    rw [this]
    rfl
theorem list_data (s : ByteArray) : s.toList = s.data.toList := by rw [ByteArray.toList_eq]
theorem eq_lit (s : ByteArray) (m : List UInt8) : (s.toList == m) = decide (s.data.toList = m) := by
  rw [list_data, Bool.eq_iff_iff]; simp
theorem of_lit {s : ByteArray} {m : List UInt8} (h : s.data.toList = m) : s = ⟨m.toArray⟩ := by
  subst h
  cases s with
  | mk d => simp
end Co

set_option maxHeartbeats 400000 in
theorem cdigit_any (c : UInt8) (w : World) :
    Calls Tryz.prog 96 #[.int .u8 (c.toNat : Int)] w fun e w' => e = .returned (.bool (Co.digit c)) ∧ w = w' := by
  have hc := c.toNat_lt
  go_enter Tryz.func96, Tryz.ntmps96
  go_wp2
  all_goals
    go_ret
    refine ⟨ret_bool ?_, rfl⟩
    first
      | exact (Co.digit_yes (by omega)).symm
      | exact (Co.digit_no (by omega)).symm
      | (unfold Co.digit; rw [Bool.eq_iff_iff]; simp; omega)
set_option maxHeartbeats 800000 in
theorem cword_any (c : UInt8) (w : World) :
    Calls Tryz.prog 87 #[.int .u8 (c.toNat : Int)] w fun e w' => e = .returned (.bool (Co.ofWord c)) ∧ w = w' := by
  have hc := c.toNat_lt
  have hd := cdigit_any c
  have hw : Co.ofWord c = ((decide (97 ≤ c.toNat) && decide (c.toNat ≤ 122)) || Co.digit c || decide (c.toNat = 95)) := rfl
  have hn : Co.digit c = true → ¬ (97 ≤ c.toNat) := by unfold Co.digit; simp; omega
  have HW := Lib.hid hw
  have HN := Lib.hid hn
  clear hw hn
  generalize Co.ofWord c = r at *
  cases hq : Co.digit c with
  | true =>
    rw [hq] at hd HW
    have HQ := Lib.hid (HN.out hq)
    clear hq HN
    go_enter Tryz.func87, Tryz.ntmps87
    go_wp2_with (go_at_call 96; refine (hd _).mono ?_; rintro e w' ⟨rfl, rfl⟩)
    all_goals
      go_ret
      refine ⟨ret_bool ?_, rfl⟩
      have h1 := HW.out
      have h2 := HQ.out
      rw [h1]
      first
        | (simp; done)
        | (rw [Bool.eq_iff_iff]; simp; omega)
  | false =>
    rw [hq] at hd HW
    clear hq HN
    go_enter Tryz.func87, Tryz.ntmps87
    go_wp2_with (go_at_call 96; refine (hd _).mono ?_; rintro e w' ⟨rfl, rfl⟩)
    all_goals
      go_ret
      refine ⟨ret_bool ?_, rfl⟩
      have h1 := HW.out
      rw [h1]
      first
        | (rw [Bool.eq_iff_iff]; simp; omega)
        | (rw [Bool.eq_iff_iff]; simp; done)
end Go.Proofs.YtlmlhjepolefaaaGreatDoor
namespace Go.Proofs.YtlmlhjepolefaaaGreatDoor
open Go.RowKit

theorem ret_nat {k : IntKind} {a b : Nat} (h : a = b) : Ending.returned (.int k (a : Int)) = .returned (.int k (b : Int)) := by rw [h]
theorem Co.kind_mark {t : List UInt8} (h : t = [111, 114] ∨ t = [97, 110, 100] ∨ t = [110, 111, 116]) : Co.kindOf t = 6 := if_pos h
section
variable {t : List UInt8}
theorem Co.kind_num (h : ¬ (t = [111, 114] ∨ t = [97, 110, 100] ∨ t = [110, 111, 116])) (h2 : ¬ (t = [116, 114, 117, 101] ∨ t = [102, 97, 108, 115, 101])) (h3 : t.length ≤ 9) (h4 : t.all Co.digit = true) : Co.kindOf t = 2 := by
  unfold Co.kindOf; rw [if_neg h, if_neg h2, if_pos ⟨h3, h4⟩]
theorem Co.kind_rest (h : ¬ (t = [111, 114] ∨ t = [97, 110, 100] ∨ t = [110, 111, 116])) (h2 : ¬ (t = [116, 114, 117, 101] ∨ t = [102, 97, 108, 115, 101])) (h3 : ¬ (t.length ≤ 9 ∧ t.all Co.digit = true)) :
    Co.kindOf t = if Co.digit t[0]! = false ∧ t[0]! ≠ 95 ∧ Vr.name t = true then 5 else 0 := by
  unfold Co.kindOf; rw [if_neg h, if_neg h2, if_neg h3]
end

set_option maxHeartbeats 1600000 in
theorem ckind_any (s : ByteArray) (w : World) (h0 : 0 < s.size) (h80 : s.size ≤ 80) :
    Calls Tryz.prog 88 #[.string s] w fun e w' => e = .returned (.int .i64 (Co.kindOf s.data.toList : Int)) ∧ Below w.heap.size w w' := by
  by_cases m1 : s.data.toList = [111, 114]
  · obtain rfl := Co.of_lit m1
    clear m1 h0 h80
    go_enter Tryz.func88, Tryz.ntmps88
    go_wp2
    go_ret
    exact ⟨rfl, Below.refl _ _⟩
  by_cases m2 : s.data.toList = [97, 110, 100]
  · obtain rfl := Co.of_lit m2
    clear m1 m2 h0 h80
    go_enter Tryz.func88, Tryz.ntmps88
    go_wp2
    go_ret
    exact ⟨rfl, Below.refl _ _⟩
  by_cases m3 : s.data.toList = [110, 111, 116]
  · obtain rfl := Co.of_lit m3
    clear m1 m2 m3 h0 h80
    go_enter Tryz.func88, Tryz.ntmps88
    go_wp2
    go_ret
    exact ⟨rfl, Below.refl _ _⟩
  by_cases m4 : s.data.toList = [116, 114, 117, 101]
  · obtain rfl := Co.of_lit m4
    clear m1 m2 m3 m4 h0 h80
    go_enter Tryz.func88, Tryz.ntmps88
    go_wp2
    go_ret
    exact ⟨rfl, Below.refl _ _⟩
  by_cases m5 : s.data.toList = [102, 97, 108, 115, 101]
  · obtain rfl := Co.of_lit m5
    clear m1 m2 m3 m4 m5 h0 h80
    go_enter Tryz.func88, Tryz.ntmps88
    go_wp2
    go_ret
    exact ⟨rfl, Below.refl _ _⟩
  have M1 : ¬ (s.data.toList = [111, 114] ∨ s.data.toList = [97, 110, 100] ∨ s.data.toList = [110, 111, 116]) := by simp [m1, m2, m3]
  have M2 : ¬ (s.data.toList = [116, 114, 117, 101] ∨ s.data.toList = [102, 97, 108, 115, 101]) := by simp [m4, m5]
  have b1 : (s.toList == [111, 114]) = false := by rw [Co.eq_lit]; simpa using m1
  have b2 : (s.toList == [97, 110, 100]) = false := by rw [Co.eq_lit]; simpa using m2
  have b3 : (s.toList == [110, 111, 116]) = false := by rw [Co.eq_lit]; simpa using m3
  have b4 : (s.toList == [116, 114, 117, 101]) = false := by rw [Co.eq_lit]; simpa using m4
  have b5 : (s.toList == [102, 97, 108, 115, 101]) = false := by rw [Co.eq_lit]; simpa using m5
  have K2 := Lib.hid (@Co.kind_num s.data.toList M1 M2)
  have K3 := Lib.hid (@Co.kind_rest s.data.toList M1 M2)
  clear m1 m2 m3 m4 m5 M1 M2
  have hl : s.data.toList.length = s.size := by simp
  have hs0 : s.data.toList[0]! = s[0] := by
    rw [getElem!_pos s.data.toList 0 (by omega)]
    simp [ByteArray.getElem_eq_getElem_data]
  have hD := fun W => cdigit_any s[0] W
  have hN := fun W => name_any s W (by omega)
  have hT : ∀ W, Calls Tryz.prog 97 #[.string s, .string ⟨#[48, 49, 50, 51, 52, 53, 54, 55, 56, 57]⟩] W fun e w' => e = .returned (.string ⟨(Lib.trimS s.data.toList [48, 49, 50, 51, 52, 53, 54, 55, 56, 57]).toArray⟩) ∧ Below W.heap.size W w' :=
    fun W => Any.strings_Trim_laid shLays160 (by kernel_rfl) s ⟨#[48, 49, 50, 51, 52, 53, 54, 55, 56, 57]⟩ W (by omega) (by decide) (ascii_of_all (by decide))
  obtain ⟨tr, htr⟩ : ∃ tr : ByteArray, tr = ⟨(Lib.trimS s.data.toList [48, 49, 50, 51, 52, 53, 54, 55, 56, 57]).toArray⟩ := ⟨_, rfl⟩
  rw [← htr] at hT
  have hte : (tr.toList == []) = s.data.toList.all Co.digit := by
    rw [Co.eq_lit, htr, Bool.eq_iff_iff]
    simpa using Co.trim_digits s.data.toList
  have HD := Lib.hid hD
  have HN := Lib.hid hN
  have HT := Lib.hid hT
  have h0' : (0 : Int) < (s.size : Int) := by omega
  clear htr hD hN hT
  have HL := Lib.hid hl
  have HS := Lib.hid hs0
  clear hl hs0
  have hdc : Co.digit s[0] = true ∨ Co.digit s[0] = false := by cases Co.digit s[0] <;> simp
  have h95 : s[0] = 95 ∨ ¬ (s[0].toNat : Int) = 95 := by
    by_cases e : s[0] = 95
    · exact .inl e
    · exact .inr (fun h => e (UInt8.toNat_inj.1 (by simp; omega)))
  have hnm : Vr.name s.data.toList = true ∨ Vr.name s.data.toList = false := by cases Vr.name s.data.toList <;> simp
  by_cases h9 : s.size ≤ 9
  · have h9' : (s.size : Int) ≤ 9 := by omega
    cases hall : s.data.toList.all Co.digit with
    | true =>
      rw [hall] at hte
      have HA := Lib.hid (K2.out (by rw [HL.out]; exact h9) hall)
      clear hall h9 hdc h95 hnm
      go_enter Tryz.func88, Tryz.ntmps88
      go_wp2_with (go_at_call 97; refine (HT.out _).mono ?_; rintro e w' ⟨rfl, hb⟩)
      go_ret
      rw [HA.out]
      exact ⟨rfl, hb⟩
    | false =>
      rw [hall] at hte
      have HA := Lib.hid (K3.out (by rw [hall]; simp))
      clear hall h9
      rcases hdc with hd | hd
      · have HA2 : Hid (Co.kindOf s.data.toList = 0) := by
          have := HA.out
          rw [HS.out, hd] at this
          exact this
        rw [hd] at HD
        clear hd h95 hnm HA
        go_enter Tryz.func88, Tryz.ntmps88
        go_wp2_with (first | (go_at_call 97; refine (HT.out _).mono ?_; rintro e w' ⟨rfl, hb⟩) | (go_at_call 96; refine (HD.out _).mono ?_; rintro e w' ⟨rfl, rfl⟩) | (go_at_call 98; refine (HN.out _).mono ?_; rintro e w' ⟨rfl, rfl⟩))
        go_ret
        rw [HA2.out]
        exact ⟨rfl, hb⟩
      · rcases h95 with h95 | h95
        · have HA2 : Hid (Co.kindOf s.data.toList = 0) := by
            have h := HA.out
            rw [HS.out, h95, if_neg (by simp)] at h
            exact h
          rw [hd] at HD
          have hx : ((s[0].toNat : Int) != 95) = false := by rw [h95]; rfl
          clear hd hnm HA h95
          go_enter Tryz.func88, Tryz.ntmps88
          go_wp2_with (first | (go_at_call 97; refine (HT.out _).mono ?_; rintro e w' ⟨rfl, hb⟩) | (go_at_call 96; refine (HD.out _).mono ?_; rintro e w' ⟨rfl, rfl⟩) | (go_at_call 98; refine (HN.out _).mono ?_; rintro e w' ⟨rfl, rfl⟩))
          go_ret
          rw [HA2.out]
          exact ⟨rfl, hb⟩
        · have n95 : s[0] ≠ 95 := fun e => h95 (by rw [e]; rfl)
          rcases hnm with hnm | hnm
          · have HA2 : Hid (Co.kindOf s.data.toList = 5) := by
              have h := HA.out
              rw [HS.out, if_pos ⟨hd, n95, hnm⟩] at h
              exact h
            rw [hd] at HD
            rw [hnm] at HN
            clear hd hnm HA n95
            go_enter Tryz.func88, Tryz.ntmps88
            go_wp2_with (first | (go_at_call 97; refine (HT.out _).mono ?_; rintro e w' ⟨rfl, hb⟩) | (go_at_call 96; refine (HD.out _).mono ?_; rintro e w' ⟨rfl, rfl⟩) | (go_at_call 98; refine (HN.out _).mono ?_; rintro e w' ⟨rfl, rfl⟩))
            go_ret
            rw [HA2.out]
            exact ⟨rfl, hb⟩
          · have HA2 : Hid (Co.kindOf s.data.toList = 0) := by
              have h := HA.out
              rw [hnm, if_neg (by simp)] at h
              exact h
            rw [hd] at HD
            rw [hnm] at HN
            clear hd hnm HA n95
            go_enter Tryz.func88, Tryz.ntmps88
            go_wp2_with (first | (go_at_call 97; refine (HT.out _).mono ?_; rintro e w' ⟨rfl, hb⟩) | (go_at_call 96; refine (HD.out _).mono ?_; rintro e w' ⟨rfl, rfl⟩) | (go_at_call 98; refine (HN.out _).mono ?_; rintro e w' ⟨rfl, rfl⟩))
            go_ret
            rw [HA2.out]
            exact ⟨rfl, hb⟩
  · have h9' : 9 < (s.size : Int) := by omega
    have HA := Lib.hid (K3.out (by rw [HL.out]; simp [h9]))
    clear h9
    rcases hdc with hd | hd
    · have HA2 : Hid (Co.kindOf s.data.toList = 0) := by
        have := HA.out
        rw [HS.out, hd] at this
        exact this
      rw [hd] at HD
      clear hd h95 hnm HA
      go_enter Tryz.func88, Tryz.ntmps88
      go_wp2_with (first | (go_at_call 97; refine (HT.out _).mono ?_; rintro e w' ⟨rfl, hb⟩) | (go_at_call 96; refine (HD.out _).mono ?_; rintro e w' ⟨rfl, rfl⟩) | (go_at_call 98; refine (HN.out _).mono ?_; rintro e w' ⟨rfl, rfl⟩))
      go_ret
      rw [HA2.out]
      exact ⟨rfl, Below.refl _ _⟩
    · rcases h95 with h95 | h95
      · have HA2 : Hid (Co.kindOf s.data.toList = 0) := by
          have h := HA.out
          rw [HS.out, h95, if_neg (by simp)] at h
          exact h
        rw [hd] at HD
        have hx : ((s[0].toNat : Int) != 95) = false := by rw [h95]; rfl
        clear hd hnm HA h95
        go_enter Tryz.func88, Tryz.ntmps88
        go_wp2_with (first | (go_at_call 97; refine (HT.out _).mono ?_; rintro e w' ⟨rfl, hb⟩) | (go_at_call 96; refine (HD.out _).mono ?_; rintro e w' ⟨rfl, rfl⟩) | (go_at_call 98; refine (HN.out _).mono ?_; rintro e w' ⟨rfl, rfl⟩))
        go_ret
        rw [HA2.out]
        exact ⟨rfl, Below.refl _ _⟩
      · have n95 : s[0] ≠ 95 := fun e => h95 (by rw [e]; rfl)
        rcases hnm with hnm | hnm
        · have HA2 : Hid (Co.kindOf s.data.toList = 5) := by
            have h := HA.out
            rw [HS.out, if_pos ⟨hd, n95, hnm⟩] at h
            exact h
          rw [hd] at HD
          rw [hnm] at HN
          clear hd hnm HA n95
          go_enter Tryz.func88, Tryz.ntmps88
          go_wp2_with (first | (go_at_call 97; refine (HT.out _).mono ?_; rintro e w' ⟨rfl, hb⟩) | (go_at_call 96; refine (HD.out _).mono ?_; rintro e w' ⟨rfl, rfl⟩) | (go_at_call 98; refine (HN.out _).mono ?_; rintro e w' ⟨rfl, rfl⟩))
          go_ret
          rw [HA2.out]
          exact ⟨rfl, Below.refl _ _⟩
        · have HA2 : Hid (Co.kindOf s.data.toList = 0) := by
            have h := HA.out
            rw [hnm, if_neg (by simp)] at h
            exact h
          rw [hd] at HD
          rw [hnm] at HN
          clear hd hnm HA n95
          go_enter Tryz.func88, Tryz.ntmps88
          go_wp2_with (first | (go_at_call 97; refine (HT.out _).mono ?_; rintro e w' ⟨rfl, hb⟩) | (go_at_call 96; refine (HD.out _).mono ?_; rintro e w' ⟨rfl, rfl⟩) | (go_at_call 98; refine (HN.out _).mono ?_; rintro e w' ⟨rfl, rfl⟩))
          go_ret
          rw [HA2.out]
          exact ⟨rfl, Below.refl _ _⟩
end Go.Proofs.YtlmlhjepolefaaaGreatDoor
