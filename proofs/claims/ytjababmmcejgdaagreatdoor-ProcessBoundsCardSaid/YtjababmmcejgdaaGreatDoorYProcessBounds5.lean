/- An error as the document's number, by whatever sentinels a row lists; rows that are kept. The sentinels that package frame tells, by whatever sentinels a row lists. Contracts of the library's shelf at this program: which function is which, compared by the kernel. -/
import Derived.Test.YtjababmmcejgdaaGreatDoorAppY
import Derived.Test.YtjababmmcejgdaaGreatDoorSeeY
import Derived.Ground.NamesProg
import Derived.Shelf.Strings.SlTrimAscii
import Derived.Shelf.Small.Strs
import Derived.Shelf.Strconv.ParseIntPublic10
import Derived.Test.YtjababmmcejgdaaGreatDoorProg
namespace Go.Proofs.YtjababmmcejgdaaGreatDoor
open Go.RowKit

/-- What an error is seen as: none, or a sentinel's number; E: where the sentinel of a number lies. -/
inductive SeenBy (E : Int → Option Addr) : Value → Int → Prop
  | nil : SeenBy E .nilIface 0
  | err (c : Int) (a : Addr) (h : E c = some a) (hc : c ≠ 0) : SeenBy E (errV a) c
theorem seen_not {E : Int → Option Addr} {ev : Value} {e : Int} (h : SeenBy E ev e) (he : e ≠ 0) : ∃ a, ev = errV a := by
  cases h with
  | nil => exact absurd rfl he
  | err k a h => exact ⟨a, rfl⟩
theorem seen_nil {E : Int → Option Addr} {ev : Value} (h : SeenBy E ev 0) : ev = .nilIface := by
  generalize he : (0 : Int) = e at h
  cases h with
  | nil => rfl
  | err k a h hc => exact absurd he.symm hc
theorem seen_err {E : Int → Option Addr} {ev : Value} {e : Int} (h : SeenBy E ev e) (he : e ≠ 0) : ∃ a, ev = errV a ∧ E e = some a := by
  cases h with
  | nil => exact absurd rfl he
  | err k a h => exact ⟨a, rfl, h⟩
/-- The sentinel of the number c is in variable g. -/
def ErrIn (W : World) (E : Int → Option Addr) (c : Int) (g : Nat) : Prop := ∃ a, E c = some a ∧ W.cell? ⟨g, 0, none⟩ = some (errV a)
theorem ErrIn.below {W w : World} {E : Int → Option Addr} {c : Int} {g : Nat} (h : ErrIn W E c g) (hb : Below W.heap.size W w) : ErrIn w E c g := by
  obtain ⟨a, h1, h2⟩ := h
  exact ⟨a, h1, (hb.cell (p := ⟨g, 0, none⟩) (cell_lt h2)).trans h2⟩
theorem errIn_of {W : World} {E : Int → Option Addr} {gs : List Nat} {ads : List Addr} (hE : Errs W 213 gs ads) (c : Int) (i g : Nat) (hg : gs[i]? = some g) (hc : E c = ads[i]?) : ErrIn W E c g := by
  have hi : i < ads.length := by rw [hE.len]; exact (List.getElem?_eq_some_iff.1 hg).1
  have ha : ads[i]? = some ads[i] := List.getElem?_eq_getElem hi
  exact ⟨ads[i], hc.trans ha, (hE.all i g _ hg ha).var⟩

theorem rowS_kept {w w' : World} {n sz : Nat} {A : Option Addr} {l : List Value} {row : Option Nat} (h : RowS w w.heap.size sz A n l) (hg : w.grownBy w' row) (ha : 0 < n → ∀ a, A = some a → row ≠ some a.block) : RowS w' w'.heap.size sz A n l := by
  refine ⟨h.1, fun hn => ?_⟩
  obtain ⟨b, off, rfl, hlt, hc⟩ := h.2 hn
  refine ⟨b, off, rfl, Nat.lt_of_lt_of_le hlt hg.size, fun k v hv => ?_⟩
  exact (World.cell?_of_block (a := ⟨b, off + k, none⟩) (hg.block b hlt (fun e => ha hn _ rfl e.symm))).trans (hc k v hv)
theorem bytes_kept {w w' : World} {n : Nat} {A : Option Addr} {l : List UInt8} {row : Option Nat} (h : Bytes w w.heap.size A n l) (hg : w.grownBy w' row) (ha : 0 < n → ∀ a, A = some a → row ≠ some a.block) : Bytes w' w'.heap.size A n l := rowS_kept h hg ha
end Go.Proofs.YtjababmmcejgdaaGreatDoor
namespace Go.Proofs.YtjababmmcejgdaaGreatDoor
open Go.RowKit

structure FrErrs (W : World) (E : Int → Option Addr) : Prop where
  e101 : ErrIn W E 101 5
  e102 : ErrIn W E 102 3
  e103 : ErrIn W E 103 8
  e105 : ErrIn W E 105 4
  row : ∀ c a, E c = some a → ∃ cs t, W.heap[a.block]? = some (.cells cs t (0, 0))
  inj : ∀ c d a, E c = some a → E d = some a → c = d
theorem FrErrs.below {W w : World} {E : Int → Option Addr} (h : FrErrs W E) (hb : Below W.heap.size W w) : FrErrs w E :=
  ⟨h.e101.below hb, h.e102.below hb, h.e103.below hb, h.e105.below hb, (fun c a ha => by
    obtain ⟨cs, t, hr⟩ := h.row c a ha
    refine ⟨cs, t, (hb.block a.block ?_).trans hr⟩
    rcases Nat.lt_or_ge a.block W.heap.size with h' | h'
    · exact h'
    · rw [Array.getElem?_eq_none h'] at hr; cases hr), h.inj⟩

/-- Where the sentinel of a number lies, by its place in the row. -/
def errMap (pos : Int → Nat) (ads : List Addr) (c : Int) : Option Addr := ads[pos c]?
theorem errMap_inj {pos : Int → Nat} {W : World} {gs : List Nat} {ads : List Addr} (hE : Errs W 213 gs ads) (hp : ∀ c d, pos c < gs.length → pos c = pos d → c = d) :
    ∀ c d a, errMap pos ads c = some a → errMap pos ads d = some a → c = d := by
  intro c d a h1 h2
  unfold errMap at h1 h2
  obtain ⟨hc, e1⟩ := List.getElem?_eq_some_iff.1 h1
  obtain ⟨hd, e2⟩ := List.getElem?_eq_some_iff.1 h2
  exact hp c d (by rw [← hE.len]; exact hc) ((List.getElem_inj hE.nodup).1 (e1.trans e2.symm))
theorem errMap_row {pos : Int → Nat} {W : World} {gs : List Nat} {ads : List Addr} (hE : Errs W 213 gs ads) :
    ∀ c a, errMap pos ads c = some a → ∃ cs t, W.heap[a.block]? = some (.cells cs t (0, 0)) := by
  intro c a h
  unfold errMap at h
  obtain ⟨hc, _⟩ := List.getElem?_eq_some_iff.1 h
  exact (hE.all _ _ a (List.getElem?_eq_getElem (by rw [← hE.len]; exact hc)) h).row
def pos4 (c : Int) : Nat := if c = 101 then 0 else if c = 102 then 1 else if c = 103 then 2 else if c = 105 then 3 else 1000
def pos16 (c : Int) : Nat := if 101 ≤ c then (c - 101).toNat else 1000
theorem pos4_inv {c : Int} (h : pos4 c < 4) : c = [101, 102, 103, 105].getD (pos4 c) 0 := by
  by_cases h1 : c = 101
  · subst h1; rfl
  · by_cases h2 : c = 102
    · subst h2; rfl
    · by_cases h3 : c = 103
      · subst h3; rfl
      · by_cases h4 : c = 105
        · subst h4; rfl
        · simp [pos4, h1, h2, h3, h4] at h
theorem frErrs4 {W : World} {ads : List Addr} (hE : Errs W 213 [5, 3, 8, 4] ads) : FrErrs W (errMap pos4 ads) where
  e101 := errIn_of hE 101 0 _ rfl rfl
  e102 := errIn_of hE 102 1 _ rfl rfl
  e103 := errIn_of hE 103 2 _ rfl rfl
  e105 := errIn_of hE 105 3 _ rfl rfl
  row := errMap_row hE
  inj := errMap_inj hE fun c d h1 h2 => by
    have hc : c = [101, 102, 103, 105].getD (pos4 c) 0 := pos4_inv h1
    have hd : d = [101, 102, 103, 105].getD (pos4 d) 0 := pos4_inv (h2 ▸ h1)
    rw [hc, hd, h2]
theorem frErrs16 {W : World} {ads : List Addr} (hE : Errs W 213 sents ads) : FrErrs W (errMap pos16 ads) where
  e101 := errIn_of hE 101 0 _ rfl rfl
  e102 := errIn_of hE 102 1 _ rfl rfl
  e103 := errIn_of hE 103 2 _ rfl rfl
  e105 := errIn_of hE 105 4 _ rfl rfl
  row := errMap_row hE
  inj := errMap_inj hE fun c d h1 h2 => by
    unfold pos16 at h1 h2
    have h1 : (if 101 ≤ c then (c - 101).toNat else 1000) < 16 := h1
    by_cases k1 : 101 ≤ c
    · rw [if_pos k1] at h1 h2
      by_cases k2 : 101 ≤ d
      · rw [if_pos k2] at h2; omega
      · rw [if_neg k2] at h2; omega
    · rw [if_neg k1] at h1; omega
theorem seenAs_of {W : World} {ads : List Addr} {ev : Value} {c : Int} (hE : Errs W 213 sents ads) (h : SeenBy (errMap pos16 ads) ev c) : SeenAs ads ev c := by
  have hl := sents_row hE
  cases h with
  | nil => exact .nil
  | err c a h hc =>
    unfold errMap pos16 at h
    split at h
    · rename_i h1
      have := SeenAs.err (ads := ads) (c - 101).toNat a h
      rwa [show (101 : Int) + ((c - 101).toNat : Nat) = c from by omega] at this
    · rw [List.getElem?_eq_none (by omega)] at h; cases h
end Go.Proofs.YtjababmmcejgdaaGreatDoor
namespace Go.Proofs.YtjababmmcejgdaaGreatDoor
open Go.Shelf
def shLays137_ren : Go.Shelf.Ren := ⟨fun | 137 => 116 | 217 => 127 | 266 => 134 | n => n, fun | 9 => 9 | 5 => 5 | 3 => 3 | n => n, fun | n => n⟩
theorem shLays137 : Go.Proofs.Lays.n137 Tryz.prog shLays137_ren := {
  mixed := by kernel_rfl
  f137 := Tryz.func116.trans (congrArg some (by kernel_rfl))
  f217 := Tryz.func127.trans (congrArg some (by kernel_rfl))
  f266 := Tryz.func134.trans (congrArg some (by kernel_rfl))
  t3 := Tryz.underlying3
  a3 := Tryz.isAgg3
  z3 := Tryz.sizeOf3
  v3 := Tryz.zeroValue3
  t5 := Tryz.underlying5
  a5 := Tryz.isAgg5
  z5 := Tryz.sizeOf5
  v5 := Tryz.zeroValue5
  t9 := Tryz.underlying9
  a9 := Tryz.isAgg9
  z9 := Tryz.sizeOf9
  v9 := Tryz.zeroValue9 }
def shLays160_ren : Go.Shelf.Ren := ⟨fun | 160 => 115 | 232 => 121 | 231 => 120 | 227 => 122 | 234 => 124 | 233 => 123 | 236 => 126 | 235 => 125 | 228 => 130 | 271 => 133 | 151 => 132 | 197 => 131 | 120 => 138 | 152 => 137 | 260 => 136 | 137 => 116 | 119 => 140 | 224 => 141 | 225 => 142 | 217 => 127 | 266 => 134 | n => n, fun | 9 => 9 | 4 => 4 | 3 => 3 | 5 => 5 | 117 => 179 | 116 => 178 | 0 => 0 | 124 => 182 | 21 => 21 | 105 => 184 | 46 => 92 | 119 => 188 | 139 => 191 | 138 => 190 | n => n, fun | 3 => 19 | 4 => 20 | n => n⟩
theorem shLays160 : Go.Proofs.Lays.n160 Tryz.prog shLays160_ren := {
  mixed := by kernel_rfl
  f119 := Tryz.func140.trans (congrArg some (by kernel_rfl))
  f120 := Tryz.func138.trans (congrArg some (by kernel_rfl))
  f137 := Tryz.func116.trans (congrArg some (by kernel_rfl))
  f151 := Tryz.func132.trans (congrArg some (by kernel_rfl))
  f152 := Tryz.func137.trans (congrArg some (by kernel_rfl))
  f160 := Tryz.func115.trans (congrArg some (by kernel_rfl))
  f197 := Tryz.func131.trans (congrArg some (by kernel_rfl))
  f217 := Tryz.func127.trans (congrArg some (by kernel_rfl))
  f224 := Tryz.func141.trans (congrArg some (by kernel_rfl))
  f225 := Tryz.func142.trans (congrArg some (by kernel_rfl))
  f227 := Tryz.func122.trans (congrArg some (by kernel_rfl))
  f228 := Tryz.func130.trans (congrArg some (by kernel_rfl))
  f231 := Tryz.func120.trans (congrArg some (by kernel_rfl))
  f232 := Tryz.func121.trans (congrArg some (by kernel_rfl))
  f233 := Tryz.func123.trans (congrArg some (by kernel_rfl))
  f234 := Tryz.func124.trans (congrArg some (by kernel_rfl))
  f235 := Tryz.func125.trans (congrArg some (by kernel_rfl))
  f236 := Tryz.func126.trans (congrArg some (by kernel_rfl))
  f260 := Tryz.func136.trans (congrArg some (by kernel_rfl))
  f266 := Tryz.func134.trans (congrArg some (by kernel_rfl))
  f271 := Tryz.func133.trans (congrArg some (by kernel_rfl))
  t0 := Tryz.underlying0
  a0 := Tryz.isAgg0
  z0 := Tryz.sizeOf0
  v0 := Tryz.zeroValue0
  t3 := Tryz.underlying3
  a3 := Tryz.isAgg3
  z3 := Tryz.sizeOf3
  v3 := Tryz.zeroValue3
  t4 := Tryz.underlying4
  a4 := Tryz.isAgg4
  z4 := Tryz.sizeOf4
  v4 := Tryz.zeroValue4
  t5 := Tryz.underlying5
  a5 := Tryz.isAgg5
  z5 := Tryz.sizeOf5
  v5 := Tryz.zeroValue5
  t9 := Tryz.underlying9
  a9 := Tryz.isAgg9
  z9 := Tryz.sizeOf9
  v9 := Tryz.zeroValue9
  t21 := Tryz.underlying21
  a21 := Tryz.isAgg21
  z21 := Tryz.sizeOf21
  v21 := Tryz.zeroValue21
  t46 := Tryz.underlying92
  a46 := Tryz.isAgg92
  z46 := Tryz.sizeOf92
  v46 := Tryz.zeroValue92
  t105 := Tryz.underlying184
  a105 := Tryz.isAgg184
  z105 := Tryz.sizeOf184
  v105 := Tryz.zeroValue184
  t116 := Tryz.underlying178
  a116 := Tryz.isAgg178
  z116 := Tryz.sizeOf178
  t117 := Tryz.underlying179
  a117 := Tryz.isAgg179
  z117 := Tryz.sizeOf179
  v117 := Tryz.zeroValue179
  t119 := Tryz.underlying188
  a119 := Tryz.isAgg188
  z119 := Tryz.sizeOf188
  t124 := Tryz.underlying182
  a124 := Tryz.isAgg182
  z124 := Tryz.sizeOf182
  v124 := Tryz.zeroValue182
  t138 := Tryz.underlying190
  a138 := Tryz.isAgg190
  z138 := Tryz.sizeOf190
  v138 := Tryz.zeroValue190
  t139 := Tryz.underlying191
  a139 := Tryz.isAgg191
  z139 := Tryz.sizeOf191
  v139 := Tryz.zeroValue191
  g3 := by kernel_rfl
  g4 := by kernel_rfl }
def shLaysC174_ren : Go.Shelf.Ren := ⟨fun | 174 => 146 | 247 => 150 | 245 => 151 | 287 => 152 | 279 => 153 | 280 => 154 | 281 => 155 | 282 => 156 | 321 => 157 | 322 => 158 | 316 => 159 | 171 => 161 | 205 => 160 | 243 => 162 | 246 => 163 | 283 => 164 | 284 => 165 | 285 => 166 | 286 => 167 | 129 => 169 | 317 => 168 | 318 => 170 | 319 => 171 | 320 => 172 | 337 => 173 | 338 => 174 | n => n, fun | 9 => 9 | 3 => 3 | 2 => 2 | 75 => 33 | 85 => 195 | 4 => 4 | 167 => 201 | 5 => 5 | 53 => 118 | 175 => 202 | 46 => 92 | 168 => 204 | 37 => 44 | 0 => 0 | 210 => 210 | 21 => 21 | 127 => 212 | 145 => 215 | 143 => 213 | 171 => 217 | 173 => 220 | 212 => 223 | 51 => 224 | 20 => 20 | 213 => 225 | 232 => 229 | 233 => 230 | 80 => 183 | n => n, fun | 15 => 21 | 16 => 22 | 17 => 23 | 18 => 24 | 19 => 25 | n => n⟩
theorem shLaysC174 : Go.Proofs.LaysC.n174 Tryz.prog shLaysC174_ren := {
  mixed := by kernel_rfl
  f129 := Tryz.func169.trans (congrArg some (by kernel_rfl))
  f171 := Tryz.func161.trans (congrArg some (by kernel_rfl))
  f174 := Tryz.func146.trans (congrArg some (by kernel_rfl))
  f205 := Tryz.func160.trans (congrArg some (by kernel_rfl))
  f243 := Tryz.func162.trans (congrArg some (by kernel_rfl))
  f245 := Tryz.func151.trans (congrArg some (by kernel_rfl))
  f246 := Tryz.func163.trans (congrArg some (by kernel_rfl))
  f247 := Tryz.func150.trans (congrArg some (by kernel_rfl))
  f279 := Tryz.func153.trans (congrArg some (by kernel_rfl))
  f280 := Tryz.func154.trans (congrArg some (by kernel_rfl))
  f281 := Tryz.func155.trans (congrArg some (by kernel_rfl))
  f282 := Tryz.func156.trans (congrArg some (by kernel_rfl))
  f283 := Tryz.func164.trans (congrArg some (by kernel_rfl))
  f284 := Tryz.func165.trans (congrArg some (by kernel_rfl))
  f285 := Tryz.func166.trans (congrArg some (by kernel_rfl))
  f286 := Tryz.func167.trans (congrArg some (by kernel_rfl))
  f287 := Tryz.func152.trans (congrArg some (by kernel_rfl))
  f316 := Tryz.func159.trans (congrArg some (by kernel_rfl))
  f317 := Tryz.func168.trans (congrArg some (by kernel_rfl))
  f318 := Tryz.func170.trans (congrArg some (by kernel_rfl))
  f319 := Tryz.func171.trans (congrArg some (by kernel_rfl))
  f320 := Tryz.func172.trans (congrArg some (by kernel_rfl))
  f321 := Tryz.func157.trans (congrArg some (by kernel_rfl))
  f322 := Tryz.func158.trans (congrArg some (by kernel_rfl))
  f337 := Tryz.func173.trans (congrArg some (by kernel_rfl))
  f338 := Tryz.func174.trans (congrArg some (by kernel_rfl))
  t0 := Tryz.underlying0
  a0 := Tryz.isAgg0
  z0 := Tryz.sizeOf0
  v0 := Tryz.zeroValue0
  t2 := Tryz.underlying2
  a2 := Tryz.isAgg2
  z2 := Tryz.sizeOf2
  v2 := Tryz.zeroValue2
  t3 := Tryz.underlying3
  a3 := Tryz.isAgg3
  z3 := Tryz.sizeOf3
  v3 := Tryz.zeroValue3
  t4 := Tryz.underlying4
  a4 := Tryz.isAgg4
  z4 := Tryz.sizeOf4
  v4 := Tryz.zeroValue4
  t5 := Tryz.underlying5
  a5 := Tryz.isAgg5
  z5 := Tryz.sizeOf5
  v5 := Tryz.zeroValue5
  t9 := Tryz.underlying9
  a9 := Tryz.isAgg9
  z9 := Tryz.sizeOf9
  v9 := Tryz.zeroValue9
  t20 := Tryz.underlying20
  a20 := Tryz.isAgg20
  z20 := Tryz.sizeOf20
  v20 := Tryz.zeroValue20
  t21 := Tryz.underlying21
  a21 := Tryz.isAgg21
  z21 := Tryz.sizeOf21
  v21 := Tryz.zeroValue21
  t37 := Tryz.underlying44
  a37 := Tryz.isAgg44
  z37 := Tryz.sizeOf44
  v37 := Tryz.zeroValue44
  t46 := Tryz.underlying92
  a46 := Tryz.isAgg92
  z46 := Tryz.sizeOf92
  v46 := Tryz.zeroValue92
  t51 := Tryz.underlying224
  a51 := Tryz.isAgg224
  z51 := Tryz.sizeOf224
  v51 := Tryz.zeroValue224
  t53 := Tryz.underlying118
  a53 := Tryz.isAgg118
  z53 := Tryz.sizeOf118
  v53 := Tryz.zeroValue118
  t75 := Tryz.underlying33
  a75 := Tryz.isAgg33
  z75 := Tryz.sizeOf33
  v75 := Tryz.zeroValue33
  t85 := Tryz.underlying195
  a85 := Tryz.isAgg195
  z85 := Tryz.sizeOf195
  v85 := Tryz.zeroValue195
  t127 := Tryz.underlying212
  a127 := Tryz.isAgg212
  z127 := Tryz.sizeOf212
  v127 := Tryz.zeroValue212
  t143 := Tryz.underlying213
  a143 := Tryz.isAgg213
  z143 := Tryz.sizeOf213
  v143 := Tryz.zeroValue213
  t145 := Tryz.underlying215
  a145 := Tryz.isAgg215
  z145 := Tryz.sizeOf215
  v145 := Tryz.zeroValue215
  t167 := Tryz.underlying201
  a167 := Tryz.isAgg201
  z167 := Tryz.sizeOf201
  v167 := Tryz.zeroValue201
  t168 := Tryz.underlying204
  a168 := Tryz.isAgg204
  z168 := Tryz.sizeOf204
  v168 := Tryz.zeroValue204
  t171 := Tryz.underlying217
  a171 := Tryz.isAgg217
  z171 := Tryz.sizeOf217
  v171 := Tryz.zeroValue217
  t173 := Tryz.underlying220
  a173 := Tryz.isAgg220
  z173 := Tryz.sizeOf220
  v173 := Tryz.zeroValue220
  t175 := Tryz.underlying202
  a175 := Tryz.isAgg202
  z175 := Tryz.sizeOf202
  v175 := Tryz.zeroValue202
  t210 := Tryz.underlying210
  a210 := Tryz.isAgg210
  z210 := Tryz.sizeOf210
  v210 := Tryz.zeroValue210
  t212 := Tryz.underlying223
  a212 := Tryz.isAgg223
  z212 := Tryz.sizeOf223
  v212 := Tryz.zeroValue223
  t213 := Tryz.underlying225
  a213 := Tryz.isAgg225
  z213 := Tryz.sizeOf225
  t232 := Tryz.underlying229
  a232 := Tryz.isAgg229
  z232 := Tryz.sizeOf229
  v232 := Tryz.zeroValue229
  t233 := Tryz.underlying230
  a233 := Tryz.isAgg230
  z233 := Tryz.sizeOf230
  v233 := Tryz.zeroValue230
  g15 := by kernel_rfl
  g16 := by kernel_rfl
  g17 := by kernel_rfl
  g18 := by kernel_rfl
  g19 := by kernel_rfl
  t80 := Tryz.underlying183
  a80 := Tryz.isAgg183
  z80 := Tryz.sizeOf183
  v80 := Tryz.zeroValue183
  i0 := by kernel_rfl
  i2 := by kernel_rfl
  i3 := by kernel_rfl
  i4 := by kernel_rfl
  i5 := by kernel_rfl
  i9 := by kernel_rfl
  i20 := by kernel_rfl
  i21 := by kernel_rfl
  i37 := by kernel_rfl
  i46 := by kernel_rfl
  i51 := by kernel_rfl
  i53 := by kernel_rfl
  i75 := by kernel_rfl
  i80 := by kernel_rfl
  i85 := by kernel_rfl
  i127 := by kernel_rfl
  i143 := by kernel_rfl
  i145 := by kernel_rfl
  i167 := by kernel_rfl
  i168 := by kernel_rfl
  i171 := by kernel_rfl
  i173 := by kernel_rfl
  i175 := by kernel_rfl
  i210 := by kernel_rfl
  i212 := by kernel_rfl
  i232 := by kernel_rfl
  i233 := by kernel_rfl
  m15 := by kernel_rfl
  m16 := by kernel_rfl
  m17 := by kernel_rfl
  m18 := by kernel_rfl
  m19 := by kernel_rfl
  c0 := by kernel_rfl
  c2 := by kernel_rfl
  c3 := by kernel_rfl
  c4 := by kernel_rfl
  c5 := by kernel_rfl
  c9 := by kernel_rfl
  c20 := by kernel_rfl
  c21 := by kernel_rfl
  c37 := by kernel_rfl
  c46 := by kernel_rfl
  c51 := by kernel_rfl
  c53 := by kernel_rfl
  c75 := by kernel_rfl
  c80 := by kernel_rfl
  c85 := by kernel_rfl
  c127 := by kernel_rfl
  c143 := by kernel_rfl
  c145 := by kernel_rfl
  c167 := by kernel_rfl
  c168 := by kernel_rfl
  c171 := by kernel_rfl
  c173 := by kernel_rfl
  c175 := by kernel_rfl
  c210 := by kernel_rfl
  c212 := by kernel_rfl
  c213 := by kernel_rfl
  c232 := by kernel_rfl
  c233 := by kernel_rfl }
end Go.Proofs.YtjababmmcejgdaaGreatDoor
