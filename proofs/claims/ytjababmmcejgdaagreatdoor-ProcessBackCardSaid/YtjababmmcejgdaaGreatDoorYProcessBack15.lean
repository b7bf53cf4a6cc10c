/- Mathematics of package cond: the first thing amiss stays; a word is known by its text. What comes first of a row; small processes. Contracts of the library's shelf at this program: which function is which, compared by the kernel. Walks of package vars: Check. -/
import Derived.Test.YtjababmmcejgdaaGreatDoorYProcessBack6
import Derived.Test.YtjababmmcejgdaaGreatDoorNo2Y
import Derived.Ground.NamesProg
import Derived.Shelf.Strings.SlTrimAscii
import Derived.Shelf.Small.Strs
import Derived.Shelf.Strconv.ParseIntPublic10
import Derived.Test.YtjababmmcejgdaaGreatDoorProg
import Derived.Test.YtjababmmcejgdaaGreatDoorYProcessBack13
import Derived.Test.YtjababmmcejgdaaGreatDoorYProcessBack8
import Derived.Deep.QuietTactic
import Derived.BigQuiet
namespace Go.Proofs.YtjababmmcejgdaaGreatDoor
open Go.RowKit

namespace Co
/-- What is amiss by then: told, or a word that can't be there. -/
def eff (st : St) : Option (Int × Nat) := if st.err.isSome = true then st.err else if st.kind = 0 then some (111, st.frm) else none
theorem eff_err {st : St} {x : Int × Nat} (h : st.err = some x) : eff st = some x := by unfold eff; rw [h]; rfl
theorem eff_of {st : St} {x : Int × Nat} (h : eff st = some x) (hk : st.kind ≠ 0) : st.err = some x := by
  unfold eff at h
  cases he : st.err with
  | none => rw [he] at h; simp [hk] at h
  | some y => rw [he] at h; simpa using h
theorem nextD_err {l : List UInt8} {st : St} {x : Int × Nat} (h : st.err = some x) : next l st = st := by unfold next; rw [h]; rfl
theorem failD_err {c : Int} {st : St} {x : Int × Nat} (h : st.err = some x) : fail c st = st := by unfold fail; rw [h]; rfl
theorem isM_kind {l : List UInt8} {st : St} {m : List UInt8} (h : isM l st m = true) : st.kind = 6 := by
  unfold isM at h
  rw [Bool.and_eq_true, decide_eq_true_eq, decide_eq_true_eq] at h
  exact h.1
theorem opGo_kind {l : List UInt8} {st : St} : ∀ n a, opGo l st n a ≠ 0 → st.kind = 6
  | 0, _, h => absurd rfl h
  | n + 1, a, h => by
    unfold opGo at h
    split at h
    · rename_i hm; exact isM_kind hm
    · exact opGo_kind n (a + 1) h
theorem op_kind {l : List UInt8} {st : St} {a b : Nat} (h : op l st a b ≠ 0) : st.kind = 6 := opGo_kind _ _ h
/-- What keeps the first thing amiss. -/
def Keeps (f : St → Out) : Prop := ∀ st e st' x, f st = some (e, st') → eff st = some x → eff st' = some x
/-- The same where an operator or bracket stands. -/
def Keeps6 (f : St → Out) : Prop := ∀ st e st' x, st.kind = 6 → f st = some (e, st') → eff st = some x → eff st' = some x
section
variable {l : List UInt8}
theorem row_keeps {part : St → Out} (hp : Keeps part) (a b : Nat) : ∀ f e st e' st' x, row l part a b f e st = some (e', st') → eff st = some x → eff st' = some x
  | 0, _, _, _, _, _, h, _ => by cases h
  | f + 1, e, st, e', st', x, h, hx => by
    unfold row at h
    by_cases h0 : op l st a b = 0
    · rw [if_pos h0] at h; cases h; exact hx
    · rw [if_neg h0] at h
      have hk := op_kind h0
      have he := eff_of hx (by rw [hk]; decide)
      rw [nextD_err he] at h
      cases hpp : part st with
      | none => rw [hpp] at h; cases h
      | some r =>
        obtain ⟨r, st2⟩ := r
        rw [hpp] at h
        exact row_keeps hp a b f _ st2 e' st' x h (hp st r st2 x hpp hx)
theorem rowAll_keeps {part : St → Out} (hp : Keeps part) (a b : Nat) : Keeps (rowAll l part a b) := by
  intro st e st' x h hx
  unfold rowAll at h
  cases hpp : part st with
  | none => rw [hpp] at h; cases h
  | some r =>
    obtain ⟨r, st2⟩ := r
    rw [hpp] at h
    exact row_keeps hp a b 60 r st2 e st' x h (hp st r st2 x hpp hx)
theorem deeper_keeps {part : Nat → St → Out} (d : Nat) (hp : d ≠ 12 → Keeps (part (d + 1))) : Keeps6 (deeper l part d) := by
  intro st e st' x hk h hx
  have he := eff_of hx (by rw [hk]; decide)
  unfold deeper at h
  by_cases hd : d = 12
  · rw [if_pos hd, failD_err he] at h; cases h; exact hx
  · rw [if_neg hd, nextD_err he] at h
    exact hp hd st e st' x h hx
theorem compared_keeps {part : St → Out} (hp : Keeps part) : Keeps (compared l part) := by
  intro st e st' x h hx
  unfold compared at h
  cases hpp : part st with
  | none => rw [hpp] at h; cases h
  | some r =>
    obtain ⟨r, st1⟩ := r
    rw [hpp] at h
    simp only [] at h
    have h1 := hp st r st1 x hpp hx
    by_cases h0 : op l st1 6 11 = 0
    · rw [if_pos h0] at h; cases h; exact h1
    · rw [if_neg h0] at h
      have hk := op_kind h0
      have he := eff_of h1 (by rw [hk]; decide)
      rw [nextD_err he] at h
      cases hp2 : part st1 with
      | none => rw [hp2] at h; cases h
      | some r2 =>
        obtain ⟨r2, st2⟩ := r2
        rw [hp2] at h
        cases h
        exact hp st1 r2 _ x hp2 h1
theorem under_keeps (m : List UInt8) (o : Int) {part : Nat → St → Out} {other : St → Out} (d : Nat) (hp : d ≠ 12 → Keeps (part (d + 1))) (ho : Keeps other) : Keeps (under l m o part other d) := by
  intro st e st' x h hx
  unfold under at h
  by_cases hm : isM l st m = true
  · rw [if_pos hm] at h
    cases hpp : deeper l part d st with
    | none => rw [hpp] at h; cases h
    | some r =>
      obtain ⟨r, st1⟩ := r
      rw [hpp] at h
      cases h
      exact deeper_keeps d hp st r _ x (isM_kind hm) hpp hx
  · rw [if_neg hm] at h
    exact ho st e st' x h hx
theorem behind_keeps {part : St → Out} (hp : Keeps part) : Keeps (behind part) := by
  intro st e st' x h hx
  unfold behind at h
  by_cases hk : st.kind = 3 ∨ st.kind = 4
  · rw [if_pos hk] at h
    have he := eff_of hx (by omega)
    rw [failD_err he] at h
    exact hp st e st' x h hx
  · rw [if_neg hk] at h
    exact hp st e st' x h hx
theorem bracket_keeps {part : Nat → St → Out} (d : Nat) (hp : d ≠ 12 → Keeps (part (d + 1))) : Keeps6 (bracket l part d) := by
  intro st e st' x hk h hx
  unfold bracket at h
  cases hpp : deeper l part d st with
  | none => rw [hpp] at h; cases h
  | some r =>
    obtain ⟨r, st1⟩ := r
    rw [hpp] at h
    simp only [] at h
    have h1 := deeper_keeps d hp st r st1 x hk hpp hx
    by_cases hm : isM l st1 [41] = true
    · rw [if_pos hm] at h
      have he := eff_of h1 (by rw [isM_kind hm]; decide)
      rw [nextD_err he] at h
      cases h; exact h1
    · rw [if_neg hm] at h
      cases he : st1.err with
      | some y =>
        rw [failD_err he, nextD_err he] at h
        cases h; exact h1
      | none =>
        have hf : fail 111 st1 = ⟨0, st1.frm, st1.till, some (111, st1.frm)⟩ := by unfold fail; rw [he]; rfl
        rw [hf, nextD_err rfl] at h
        cases h
        unfold eff at h1 ⊢
        rw [he] at h1
        by_cases hk0 : st1.kind = 0
        · simp [hk0] at h1 ⊢; exact h1
        · simp [hk0] at h1
theorem single_keeps {br : St → Out} (hb : Keeps6 br) : Keeps (single l br) := by
  intro st e st' x h hx
  unfold single at h
  by_cases hm : isM l st [40] = true
  · rw [if_pos hm] at h; exact hb st e st' x (isM_kind hm) h hx
  rw [if_neg hm] at h
  by_cases h2 : st.kind = 2
  · rw [if_pos h2] at h
    have he := eff_of hx (by rw [h2]; decide)
    split at h
    · rw [nextD_err he] at h; cases h; exact hx
    · cases h
  rw [if_neg h2] at h
  by_cases h3 : st.kind = 3
  · rw [if_pos h3] at h
    have he := eff_of hx (by rw [h3]; decide)
    split at h
    · rw [nextD_err he] at h; cases h; exact hx
    · cases h
  rw [if_neg h3] at h
  by_cases h4 : st.kind = 4
  · rw [if_pos h4] at h
    have he := eff_of hx (by rw [h4]; decide)
    rw [nextD_err he] at h; cases h; exact hx
  rw [if_neg h4] at h
  by_cases h5 : st.kind = 5
  · rw [if_pos h5] at h
    have he := eff_of hx (by rw [h5]; decide)
    rw [nextD_err he] at h; cases h; exact hx
  rw [if_neg h5] at h
  cases he : st.err with
  | some y =>
    rw [failD_err he, nextD_err he] at h
    cases h; exact hx
  | none =>
    have hf : fail 111 st = ⟨0, st.frm, st.till, some (111, st.frm)⟩ := by unfold fail; rw [he]; rfl
    rw [hf, nextD_err rfl] at h
    cases h
    unfold eff at hx ⊢
    rw [he] at hx
    by_cases hk0 : st.kind = 0
    · simp [hk0] at hx ⊢; exact hx
    · simp [hk0] at hx
theorem parts_keeps : ∀ f which d, which ≤ 8 → Keeps (parts l f which d) ∧ Keeps6 (parts l f 9 d)
  | 0, _, _, _ => ⟨fun _ _ _ _ h => (by cases h), fun _ _ _ _ _ h => (by cases h)⟩
  | f + 1, which, d, hw => by
    have ih := parts_keeps f
    refine ⟨?_, bracket_keeps d fun _ => (ih 0 (d + 1) (by decide)).1⟩
    have e : which = 0 ∨ which = 1 ∨ which = 2 ∨ which = 3 ∨ which = 4 ∨ which = 5 ∨ which = 6 ∨ which = 7 ∨ which = 8 := by omega
    rcases e with rfl | rfl | rfl | rfl | rfl | rfl | rfl | rfl | rfl
    · exact rowAll_keeps (ih 1 d (by decide)).1 3 3
    · exact rowAll_keeps (ih 2 d (by decide)).1 4 4
    · exact under_keeps [110, 111, 116] 5 d (fun _ => (ih 2 (d + 1) (by decide)).1) (ih 3 d (by decide)).1
    · exact compared_keeps (ih 4 d (by decide)).1
    · exact rowAll_keeps (ih 5 d (by decide)).1 12 13
    · exact rowAll_keeps (ih 6 d (by decide)).1 14 16
    · exact under_keeps [45] 17 d (fun _ => (ih 7 (d + 1) (by decide)).1) (ih 8 d (by decide)).1
    · exact behind_keeps (ih 6 d (by decide)).1
    · exact single_keeps (ih 0 d (by decide)).2
end
end Co
end Go.Proofs.YtjababmmcejgdaaGreatDoor
namespace Go.Proofs.YtjababmmcejgdaaGreatDoor
open Go.RowKit

namespace Pr
theorem find_first (q : Nat → Bool) : ∀ m j, j < m → q j = true → (∀ t, t < j → q t = false) → (List.range m).find? q = some j
  | 0, _, h, _, _ => absurd h (Nat.not_lt_zero _)
  | m + 1, j, h, hq, ha => by
    rw [List.range_succ, List.find?_append]
    by_cases hj : j < m
    · rw [find_first q m j hj hq ha]; rfl
    · obtain rfl : j = m := by omega
      have : (List.range j).find? q = none := by
        rw [List.find?_eq_none]
        intro t ht
        rw [ha t (List.mem_range.1 ht)]
        decide
      rw [this]
      simp [hq]
theorem find_no (q : Nat → Bool) (m : Nat) (ha : ∀ t, t < m → q t = false) : (List.range m).find? q = none := by
  rw [List.find?_eq_none]
  intro t ht
  rw [ha t (List.mem_range.1 ht)]
  decide
/-- Of a process that is small: its texts' sizes. -/
structure Lite (p : P) : Prop where
  name : p.name.size ≤ 9223372036854775807
  nodes : ∀ i, i < p.n → Small (p.nodes[i]!)
  flows : ∀ j, j < p.m → (p.flows[j]!).cond.size ≤ 100
end Pr
end Go.Proofs.YtjababmmcejgdaaGreatDoor
namespace Go.Proofs.YtjababmmcejgdaaGreatDoor
open Go.Shelf
def shLays137_ren : Go.Shelf.Ren := ⟨fun | 137 => 116 | 217 => 127 | 266 => 134 | n => n, fun | 9 => 9 | 5 => 5 | 3 => 3 | n => n, fun | n => n⟩
theorem shLays137 : Go.Proofs.Lays.n137 Tryz.prog shLays137_ren := {
  mixed := by kernel_rfl
  f137 := Tryz.func116.trans (congrArg some (by kernel_rfl))
  f217 := Tryz.func127.trans (congrArg some (by kernel_rfl))
  f266 := Tryz.func134.trans (congrArg some (by kernel_rfl))
  t3 := Tryz.underlying3
  a3 := Tryz.isAgg3
  z3 := Tryz.sizeOf3
  v3 := Tryz.zeroValue3
  t5 := Tryz.underlying5
  a5 := Tryz.isAgg5
  z5 := Tryz.sizeOf5
  v5 := Tryz.zeroValue5
  t9 := Tryz.underlying9
  a9 := Tryz.isAgg9
  z9 := Tryz.sizeOf9
  v9 := Tryz.zeroValue9 }
def shLays160_ren : Go.Shelf.Ren := ⟨fun | 160 => 115 | 232 => 121 | 231 => 120 | 227 => 122 | 234 => 124 | 233 => 123 | 236 => 126 | 235 => 125 | 228 => 130 | 271 => 133 | 151 => 132 | 197 => 131 | 120 => 138 | 152 => 137 | 260 => 136 | 137 => 116 | 119 => 140 | 224 => 141 | 225 => 142 | 217 => 127 | 266 => 134 | n => n, fun | 9 => 9 | 4 => 4 | 3 => 3 | 5 => 5 | 117 => 179 | 116 => 178 | 0 => 0 | 124 => 182 | 21 => 21 | 105 => 184 | 46 => 92 | 119 => 188 | 139 => 191 | 138 => 190 | n => n, fun | 3 => 19 | 4 => 20 | n => n⟩
theorem shLays160 : Go.Proofs.Lays.n160 Tryz.prog shLays160_ren := {
  mixed := by kernel_rfl
  f119 := Tryz.func140.trans (congrArg some (by kernel_rfl))
  f120 := Tryz.func138.trans (congrArg some (by kernel_rfl))
  f137 := Tryz.func116.trans (congrArg some (by kernel_rfl))
  f151 := Tryz.func132.trans (congrArg some (by kernel_rfl))
  f152 := Tryz.func137.trans (congrArg some (by kernel_rfl))
  f160 := Tryz.func115.trans (congrArg some (by kernel_rfl))
  f197 := Tryz.func131.trans (congrArg some (by kernel_rfl))
  f217 := Tryz.func127.trans (congrArg some (by kernel_rfl))
  f224 := Tryz.func141.trans (congrArg some (by kernel_rfl))
  f225 := Tryz.func142.trans (congrArg some (by kernel_rfl))
  f227 := Tryz.func122.trans (congrArg some (by kernel_rfl))
  f228 := Tryz.func130.trans (congrArg some (by kernel_rfl))
  f231 := Tryz.func120.trans (congrArg some (by kernel_rfl))
  f232 := Tryz.func121.trans (congrArg some (by kernel_rfl))
  f233 := Tryz.func123.trans (congrArg some (by kernel_rfl))
  f234 := Tryz.func124.trans (congrArg some (by kernel_rfl))
  f235 := Tryz.func125.trans (congrArg some (by kernel_rfl))
  f236 := Tryz.func126.trans (congrArg some (by kernel_rfl))
  f260 := Tryz.func136.trans (congrArg some (by kernel_rfl))
  f266 := Tryz.func134.trans (congrArg some (by kernel_rfl))
  f271 := Tryz.func133.trans (congrArg some (by kernel_rfl))
  t0 := Tryz.underlying0
  a0 := Tryz.isAgg0
  z0 := Tryz.sizeOf0
  v0 := Tryz.zeroValue0
  t3 := Tryz.underlying3
  a3 := Tryz.isAgg3
  z3 := Tryz.sizeOf3
  v3 := Tryz.zeroValue3
  t4 := Tryz.underlying4
  a4 := Tryz.isAgg4
  z4 := Tryz.sizeOf4
  v4 := Tryz.zeroValue4
  t5 := Tryz.underlying5
  a5 := Tryz.isAgg5
  z5 := Tryz.sizeOf5
  v5 := Tryz.zeroValue5
  t9 := Tryz.underlying9
  a9 := Tryz.isAgg9
  z9 := Tryz.sizeOf9
  v9 := Tryz.zeroValue9
  t21 := Tryz.underlying21
  a21 := Tryz.isAgg21
  z21 := Tryz.sizeOf21
  v21 := Tryz.zeroValue21
  t46 := Tryz.underlying92
  a46 := Tryz.isAgg92
  z46 := Tryz.sizeOf92
  v46 := Tryz.zeroValue92
  t105 := Tryz.underlying184
  a105 := Tryz.isAgg184
  z105 := Tryz.sizeOf184
  v105 := Tryz.zeroValue184
  t116 := Tryz.underlying178
  a116 := Tryz.isAgg178
  z116 := Tryz.sizeOf178
  t117 := Tryz.underlying179
  a117 := Tryz.isAgg179
  z117 := Tryz.sizeOf179
  v117 := Tryz.zeroValue179
  t119 := Tryz.underlying188
  a119 := Tryz.isAgg188
  z119 := Tryz.sizeOf188
  t124 := Tryz.underlying182
  a124 := Tryz.isAgg182
  z124 := Tryz.sizeOf182
  v124 := Tryz.zeroValue182
  t138 := Tryz.underlying190
  a138 := Tryz.isAgg190
  z138 := Tryz.sizeOf190
  v138 := Tryz.zeroValue190
  t139 := Tryz.underlying191
  a139 := Tryz.isAgg191
  z139 := Tryz.sizeOf191
  v139 := Tryz.zeroValue191
  g3 := by kernel_rfl
  g4 := by kernel_rfl }
def shLaysC174_ren : Go.Shelf.Ren := ⟨fun | 174 => 146 | 247 => 150 | 245 => 151 | 287 => 152 | 279 => 153 | 280 => 154 | 281 => 155 | 282 => 156 | 321 => 157 | 322 => 158 | 316 => 159 | 171 => 161 | 205 => 160 | 243 => 162 | 246 => 163 | 283 => 164 | 284 => 165 | 285 => 166 | 286 => 167 | 129 => 169 | 317 => 168 | 318 => 170 | 319 => 171 | 320 => 172 | 337 => 173 | 338 => 174 | n => n, fun | 9 => 9 | 3 => 3 | 2 => 2 | 75 => 33 | 85 => 195 | 4 => 4 | 167 => 201 | 5 => 5 | 53 => 118 | 175 => 202 | 46 => 92 | 168 => 204 | 37 => 44 | 0 => 0 | 210 => 210 | 21 => 21 | 127 => 212 | 145 => 215 | 143 => 213 | 171 => 217 | 173 => 220 | 212 => 223 | 51 => 224 | 20 => 20 | 213 => 225 | 232 => 229 | 233 => 230 | 80 => 183 | n => n, fun | 15 => 21 | 16 => 22 | 17 => 23 | 18 => 24 | 19 => 25 | n => n⟩
theorem shLaysC174 : Go.Proofs.LaysC.n174 Tryz.prog shLaysC174_ren := {
  mixed := by kernel_rfl
  f129 := Tryz.func169.trans (congrArg some (by kernel_rfl))
  f171 := Tryz.func161.trans (congrArg some (by kernel_rfl))
  f174 := Tryz.func146.trans (congrArg some (by kernel_rfl))
  f205 := Tryz.func160.trans (congrArg some (by kernel_rfl))
  f243 := Tryz.func162.trans (congrArg some (by kernel_rfl))
  f245 := Tryz.func151.trans (congrArg some (by kernel_rfl))
  f246 := Tryz.func163.trans (congrArg some (by kernel_rfl))
  f247 := Tryz.func150.trans (congrArg some (by kernel_rfl))
  f279 := Tryz.func153.trans (congrArg some (by kernel_rfl))
  f280 := Tryz.func154.trans (congrArg some (by kernel_rfl))
  f281 := Tryz.func155.trans (congrArg some (by kernel_rfl))
  f282 := Tryz.func156.trans (congrArg some (by kernel_rfl))
  f283 := Tryz.func164.trans (congrArg some (by kernel_rfl))
  f284 := Tryz.func165.trans (congrArg some (by kernel_rfl))
  f285 := Tryz.func166.trans (congrArg some (by kernel_rfl))
  f286 := Tryz.func167.trans (congrArg some (by kernel_rfl))
  f287 := Tryz.func152.trans (congrArg some (by kernel_rfl))
  f316 := Tryz.func159.trans (congrArg some (by kernel_rfl))
  f317 := Tryz.func168.trans (congrArg some (by kernel_rfl))
  f318 := Tryz.func170.trans (congrArg some (by kernel_rfl))
  f319 := Tryz.func171.trans (congrArg some (by kernel_rfl))
  f320 := Tryz.func172.trans (congrArg some (by kernel_rfl))
  f321 := Tryz.func157.trans (congrArg some (by kernel_rfl))
  f322 := Tryz.func158.trans (congrArg some (by kernel_rfl))
  f337 := Tryz.func173.trans (congrArg some (by kernel_rfl))
  f338 := Tryz.func174.trans (congrArg some (by kernel_rfl))
  t0 := Tryz.underlying0
  a0 := Tryz.isAgg0
  z0 := Tryz.sizeOf0
  v0 := Tryz.zeroValue0
  t2 := Tryz.underlying2
  a2 := Tryz.isAgg2
  z2 := Tryz.sizeOf2
  v2 := Tryz.zeroValue2
  t3 := Tryz.underlying3
  a3 := Tryz.isAgg3
  z3 := Tryz.sizeOf3
  v3 := Tryz.zeroValue3
  t4 := Tryz.underlying4
  a4 := Tryz.isAgg4
  z4 := Tryz.sizeOf4
  v4 := Tryz.zeroValue4
  t5 := Tryz.underlying5
  a5 := Tryz.isAgg5
  z5 := Tryz.sizeOf5
  v5 := Tryz.zeroValue5
  t9 := Tryz.underlying9
  a9 := Tryz.isAgg9
  z9 := Tryz.sizeOf9
  v9 := Tryz.zeroValue9
  t20 := Tryz.underlying20
  a20 := Tryz.isAgg20
  z20 := Tryz.sizeOf20
  v20 := Tryz.zeroValue20
  t21 := Tryz.underlying21
  a21 := Tryz.isAgg21
  z21 := Tryz.sizeOf21
  v21 := Tryz.zeroValue21
  t37 := Tryz.underlying44
  a37 := Tryz.isAgg44
  z37 := Tryz.sizeOf44
  v37 := Tryz.zeroValue44
  t46 := Tryz.underlying92
  a46 := Tryz.isAgg92
  z46 := Tryz.sizeOf92
  v46 := Tryz.zeroValue92
  t51 := Tryz.underlying224
  a51 := Tryz.isAgg224
  z51 := Tryz.sizeOf224
  v51 := Tryz.zeroValue224
  t53 := Tryz.underlying118
  a53 := Tryz.isAgg118
  z53 := Tryz.sizeOf118
  v53 := Tryz.zeroValue118
  t75 := Tryz.underlying33
  a75 := Tryz.isAgg33
  z75 := Tryz.sizeOf33
  v75 := Tryz.zeroValue33
  t85 := Tryz.underlying195
  a85 := Tryz.isAgg195
  z85 := Tryz.sizeOf195
  v85 := Tryz.zeroValue195
  t127 := Tryz.underlying212
  a127 := Tryz.isAgg212
  z127 := Tryz.sizeOf212
  v127 := Tryz.zeroValue212
  t143 := Tryz.underlying213
  a143 := Tryz.isAgg213
  z143 := Tryz.sizeOf213
  v143 := Tryz.zeroValue213
  t145 := Tryz.underlying215
  a145 := Tryz.isAgg215
  z145 := Tryz.sizeOf215
  v145 := Tryz.zeroValue215
  t167 := Tryz.underlying201
  a167 := Tryz.isAgg201
  z167 := Tryz.sizeOf201
  v167 := Tryz.zeroValue201
  t168 := Tryz.underlying204
  a168 := Tryz.isAgg204
  z168 := Tryz.sizeOf204
  v168 := Tryz.zeroValue204
  t171 := Tryz.underlying217
  a171 := Tryz.isAgg217
  z171 := Tryz.sizeOf217
  v171 := Tryz.zeroValue217
  t173 := Tryz.underlying220
  a173 := Tryz.isAgg220
  z173 := Tryz.sizeOf220
  v173 := Tryz.zeroValue220
  t175 := Tryz.underlying202
  a175 := Tryz.isAgg202
  z175 := Tryz.sizeOf202
  v175 := Tryz.zeroValue202
  t210 := Tryz.underlying210
  a210 := Tryz.isAgg210
  z210 := Tryz.sizeOf210
  v210 := Tryz.zeroValue210
  t212 := Tryz.underlying223
  a212 := Tryz.isAgg223
  z212 := Tryz.sizeOf223
  v212 := Tryz.zeroValue223
  t213 := Tryz.underlying225
  a213 := Tryz.isAgg225
  z213 := Tryz.sizeOf225
  t232 := Tryz.underlying229
  a232 := Tryz.isAgg229
  z232 := Tryz.sizeOf229
  v232 := Tryz.zeroValue229
  t233 := Tryz.underlying230
  a233 := Tryz.isAgg230
  z233 := Tryz.sizeOf230
  v233 := Tryz.zeroValue230
  g15 := by kernel_rfl
  g16 := by kernel_rfl
  g17 := by kernel_rfl
  g18 := by kernel_rfl
  g19 := by kernel_rfl
  t80 := Tryz.underlying183
  a80 := Tryz.isAgg183
  z80 := Tryz.sizeOf183
  v80 := Tryz.zeroValue183
  i0 := by kernel_rfl
  i2 := by kernel_rfl
  i3 := by kernel_rfl
  i4 := by kernel_rfl
  i5 := by kernel_rfl
  i9 := by kernel_rfl
  i20 := by kernel_rfl
  i21 := by kernel_rfl
  i37 := by kernel_rfl
  i46 := by kernel_rfl
  i51 := by kernel_rfl
  i53 := by kernel_rfl
  i75 := by kernel_rfl
  i80 := by kernel_rfl
  i85 := by kernel_rfl
  i127 := by kernel_rfl
  i143 := by kernel_rfl
  i145 := by kernel_rfl
  i167 := by kernel_rfl
  i168 := by kernel_rfl
  i171 := by kernel_rfl
  i173 := by kernel_rfl
  i175 := by kernel_rfl
  i210 := by kernel_rfl
  i212 := by kernel_rfl
  i232 := by kernel_rfl
  i233 := by kernel_rfl
  m15 := by kernel_rfl
  m16 := by kernel_rfl
  m17 := by kernel_rfl
  m18 := by kernel_rfl
  m19 := by kernel_rfl
  c0 := by kernel_rfl
  c2 := by kernel_rfl
  c3 := by kernel_rfl
  c4 := by kernel_rfl
  c5 := by kernel_rfl
  c9 := by kernel_rfl
  c20 := by kernel_rfl
  c21 := by kernel_rfl
  c37 := by kernel_rfl
  c46 := by kernel_rfl
  c51 := by kernel_rfl
  c53 := by kernel_rfl
  c75 := by kernel_rfl
  c80 := by kernel_rfl
  c85 := by kernel_rfl
  c127 := by kernel_rfl
  c143 := by kernel_rfl
  c145 := by kernel_rfl
  c167 := by kernel_rfl
  c168 := by kernel_rfl
  c171 := by kernel_rfl
  c173 := by kernel_rfl
  c175 := by kernel_rfl
  c210 := by kernel_rfl
  c212 := by kernel_rfl
  c213 := by kernel_rfl
  c232 := by kernel_rfl
  c233 := by kernel_rfl }
end Go.Proofs.YtjababmmcejgdaaGreatDoor
namespace Go.Proofs.YtjababmmcejgdaaGreatDoor
open Go.RowKit

theorem seen_at_new {E : Int → Option Addr} (w : World) (c : Int) (a : Addr) (x : Int) (k : Nat) (hx : x = k) (h : E c = some a) (hc : c ≠ 0) : SeenF E (w.alloc (.cells #[.int .i64 x, .iface 213 (.pointer (some a))] 67)) (atV w.heap.size) c (some k) := by
  subst hx
  refine .at_ _ c a k h hc ?_ ?_
  · exact cell_of_row _ w.heap.size 0 _ _ (0, 0) (heap_alloc_new w _)
  · exact cell_of_row _ w.heap.size 1 _ _ (0, 0) (heap_alloc_new w _)
theorem faultAt_first {l : List Vr.V} {k : Nat} {x : Int} (hx : x ≠ 0) (h : Vr.fault l[k]! = x) : Vr.faultAt l k = x := by
  unfold Vr.faultAt
  rw [h, if_pos hx]
theorem faultAt_zero {l : List Vr.V} (h : Vr.fault l[0]! = 0) : Vr.faultAt l 0 = 0 := by
  unfold Vr.faultAt
  rw [h, if_neg (by simp), if_neg (by simp)]
theorem faultAt_twice {l : List Vr.V} {j : Nat} (h : Vr.fault l[j + 1]! = 0) (h2 : Vr.lss l[j]!.name l[j + 1]!.name = false) : Vr.faultAt l (j + 1) = 109 := by
  unfold Vr.faultAt
  rw [h, if_neg (by simp), if_pos ⟨by omega, by simpa using h2⟩]
theorem faultAt_fine {l : List Vr.V} {j : Nat} (h : Vr.fault l[j + 1]! = 0) (h2 : Vr.lss l[j]!.name l[j + 1]!.name = true) : Vr.faultAt l (j + 1) = 0 := by
  unfold Vr.faultAt
  rw [h, if_neg (by simp), if_neg (fun hh => by rw [show j + 1 - 1 = j from rfl, h2] at hh; cases hh.2)]
theorem all_next {l : List Vr.V} {k : Nat} (h : ∀ j, j < k → Vr.faultAt l j = 0) (hk : Vr.faultAt l k = 0) : ∀ j, j < k + 1 → Vr.faultAt l j = 0 := by
  intro j hj
  by_cases e : j = k
  · subst e; exact hk
  · exact h j (by omega)

end Go.Proofs.YtjababmmcejgdaaGreatDoor
