/- The sentinels that package frame tells, by whatever sentinels a row lists. Variables in memory: rows of four cells each. Walks of package vars: what is amiss with variables. -/
import Derived.Test.YtlmlhjepolefaaaGreatDoorYTokenWaits3
import Derived.Test.YtlmlhjepolefaaaGreatDoorYTokenWaits1
import Derived.Test.YtlmlhjepolefaaaGreatDoorAppY
import Derived.Test.YtlmlhjepolefaaaGreatDoorVnY
namespace Go.Proofs.YtlmlhjepolefaaaGreatDoor
open Go.RowKit

structure FrErrs (W : World) (E : Int → Option Addr) : Prop where
  e101 : ErrIn W E 101 3
  e102 : ErrIn W E 102 4
  e103 : ErrIn W E 103 5
  e105 : ErrIn W E 105 6
  row : ∀ c a, E c = some a → ∃ cs t, W.heap[a.block]? = some (.cells cs t (0, 0))
  inj : ∀ c d a, E c = some a → E d = some a → c = d
theorem FrErrs.below {W w : World} {E : Int → Option Addr} (h : FrErrs W E) (hb : Below W.heap.size W w) : FrErrs w E :=
  ⟨h.e101.below hb, h.e102.below hb, h.e103.below hb, h.e105.below hb, (fun c a ha => by
    obtain ⟨cs, t, hr⟩ := h.row c a ha
    refine ⟨cs, t, (hb.block a.block ?_).trans hr⟩
    rcases Nat.lt_or_ge a.block W.heap.size with h' | h'
    · exact h'
    · rw [Array.getElem?_eq_none h'] at hr; cases hr), h.inj⟩

/-- Where the sentinel of a number lies, by its place in the row. -/
def errMap (pos : Int → Nat) (ads : List Addr) (c : Int) : Option Addr := ads[pos c]?
theorem errMap_inj {pos : Int → Nat} {W : World} {gs : List Nat} {ads : List Addr} (hE : Errs W 185 gs ads) (hp : ∀ c d, pos c < gs.length → pos c = pos d → c = d) :
    ∀ c d a, errMap pos ads c = some a → errMap pos ads d = some a → c = d := by
  intro c d a h1 h2
  unfold errMap at h1 h2
  obtain ⟨hc, e1⟩ := List.getElem?_eq_some_iff.1 h1
  obtain ⟨hd, e2⟩ := List.getElem?_eq_some_iff.1 h2
  exact hp c d (by rw [← hE.len]; exact hc) ((List.getElem_inj hE.nodup).1 (e1.trans e2.symm))
theorem errMap_row {pos : Int → Nat} {W : World} {gs : List Nat} {ads : List Addr} (hE : Errs W 185 gs ads) :
    ∀ c a, errMap pos ads c = some a → ∃ cs t, W.heap[a.block]? = some (.cells cs t (0, 0)) := by
  intro c a h
  unfold errMap at h
  obtain ⟨hc, _⟩ := List.getElem?_eq_some_iff.1 h
  exact (hE.all _ _ a (List.getElem?_eq_getElem (by rw [← hE.len]; exact hc)) h).row
def pos4 (c : Int) : Nat := if c = 101 then 0 else if c = 102 then 1 else if c = 103 then 2 else if c = 105 then 3 else 1000
def pos16 (c : Int) : Nat := if 101 ≤ c then (c - 101).toNat else 1000
theorem pos4_inv {c : Int} (h : pos4 c < 4) : c = [101, 102, 103, 105].getD (pos4 c) 0 := by
  by_cases h1 : c = 101
  · subst h1; rfl
  · by_cases h2 : c = 102
    · subst h2; rfl
    · by_cases h3 : c = 103
      · subst h3; rfl
      · by_cases h4 : c = 105
        · subst h4; rfl
        · simp [pos4, h1, h2, h3, h4] at h
theorem frErrs4 {W : World} {ads : List Addr} (hE : Errs W 185 [3, 4, 5, 6] ads) : FrErrs W (errMap pos4 ads) where
  e101 := errIn_of hE 101 0 _ rfl rfl
  e102 := errIn_of hE 102 1 _ rfl rfl
  e103 := errIn_of hE 103 2 _ rfl rfl
  e105 := errIn_of hE 105 3 _ rfl rfl
  row := errMap_row hE
  inj := errMap_inj hE fun c d h1 h2 => by
    have hc : c = [101, 102, 103, 105].getD (pos4 c) 0 := pos4_inv h1
    have hd : d = [101, 102, 103, 105].getD (pos4 d) 0 := pos4_inv (h2 ▸ h1)
    rw [hc, hd, h2]
theorem frErrs16 {W : World} {ads : List Addr} (hE : Errs W 185 sents ads) : FrErrs W (errMap pos16 ads) where
  e101 := errIn_of hE 101 0 _ rfl rfl
  e102 := errIn_of hE 102 1 _ rfl rfl
  e103 := errIn_of hE 103 2 _ rfl rfl
  e105 := errIn_of hE 105 4 _ rfl rfl
  row := errMap_row hE
  inj := errMap_inj hE fun c d h1 h2 => by
    unfold pos16 at h1 h2
    have h1 : (if 101 ≤ c then (c - 101).toNat else 1000) < 16 := h1
    by_cases k1 : 101 ≤ c
    · rw [if_pos k1] at h1 h2
      by_cases k2 : 101 ≤ d
      · rw [if_pos k2] at h2; omega
      · rw [if_neg k2] at h2; omega
    · rw [if_neg k1] at h1; omega
theorem seenAs_of {W : World} {ads : List Addr} {ev : Value} {c : Int} (hE : Errs W 185 sents ads) (h : SeenBy (errMap pos16 ads) ev c) : SeenAs ads ev c := by
  have hl := sents_row hE
  cases h with
  | nil => exact .nil
  | err c a h hc =>
    unfold errMap pos16 at h
    split at h
    · rename_i h1
      have := SeenAs.err (ads := ads) (c - 101).toNat a h
      rwa [show (101 : Int) + ((c - 101).toNat : Nat) = c from by omega] at this
    · rw [List.getElem?_eq_none (by omega)] at h; cases h
end Go.Proofs.YtlmlhjepolefaaaGreatDoor
namespace Go.Proofs.YtlmlhjepolefaaaGreatDoor
open Go.RowKit

theorem flat4_len (l : List Vr.V) : (l.flatMap Vr.V.cells).length = l.length * 4 := by
  induction l with
  | nil => rfl
  | cons y l ih => simp only [List.flatMap_cons, List.length_append, List.length_cons, ih, Vr.V.cells_len]; omega
theorem flat4_at : ∀ (l : List Vr.V) (j i : Nat) (hj : j < l.length), i < 4 → (l.flatMap Vr.V.cells)[j * 4 + i]? = (l[j].cells)[i]?
  | y :: l, 0, i, _, hi => by
    rw [List.flatMap_cons, List.getElem?_append_left (by simp; omega)]
    simp
  | y :: l, j + 1, i, hj, hi => by
    rw [List.flatMap_cons, List.getElem?_append_right (by simp; omega)]
    have := flat4_at l j i (by simpa using hj) hi
    rw [show (j + 1) * 4 + i - y.cells.length = j * 4 + i from by simp; omega, this]
    simp
theorem flat4_one (l : List Vr.V) : ∀ u ∈ l.flatMap Vr.V.cells, u.oneCell' = true := by
  intro u hu
  obtain ⟨v, _, hv⟩ := List.mem_flatMap.1 hu
  simp only [Vr.V.cells, List.mem_cons, List.not_mem_nil, or_false] at hv
  rcases hv with rfl | rfl | rfl | rfl <;> rfl

/-- A slice of variables. -/
def VRow (w : World) (B : Nat) (A : Option Addr) (n : Nat) (l : List Vr.V) : Prop := RowS w B 4 A n (l.flatMap Vr.V.cells)
/-- One of one's own. -/
def OwnVars (w : World) (base : Nat) (e : TypeId) (A : Option Addr) (n c : Nat) (l : List Vr.V) : Prop := w.ownsRow base e 4 (.slice A n c) n (l.flatMap Vr.V.cells)
section
variable {w w' : World} {B B' n : Nat} {A : Option Addr} {l : List Vr.V}
theorem VRow.len (h : VRow w B A n l) : l.length = n := by
  have := h.1
  rw [flat4_len] at this
  omega
theorem VRow.nil (w : World) (B : Nat) (A : Option Addr) : VRow w B A 0 [] := RowS.nil w B 4 A
theorem VRow.below (h : VRow w B A n l) {b0 : Nat} (hb : Below b0 w w') (hB : B ≤ b0) : VRow w' B A n l := RowS.below h hb hB
theorem VRow.mono (h : VRow w B A n l) (hB : B ≤ B') : VRow w B' A n l := RowS.mono h hB
theorem VRow.drew (h : VRow w B A n l) : VRow w.drew B A n l := h
theorem VRow.at_ (h : VRow w B A n l) {k : Nat} (hk : k < n) :
    ∃ b off, A = some ⟨b, off, none⟩ ∧ b < B ∧ w.cell? ⟨b, off + k * 4, none⟩ = some (.string l[k]!.name) ∧ w.cell? ⟨b, off + k * 4 + 1, none⟩ = some (.int .i64 l[k]!.kind) ∧
      w.cell? ⟨b, off + k * 4 + 2, none⟩ = some (.int .i64 l[k]!.num) ∧ w.cell? ⟨b, off + k * 4 + 3, none⟩ = some (.string l[k]!.text) := by
  have hl := h.len
  have hkl : k < l.length := by omega
  obtain ⟨b, off, rfl, hb, hc⟩ := h.2 (by omega)
  rw [show l[k]! = l[k] from getElem!_pos l k hkl]
  exact ⟨b, off, rfl, hb, hc _ _ (flat4_at l k 0 hkl (by decide)), hc _ _ (flat4_at l k 1 hkl (by decide)), hc _ _ (flat4_at l k 2 hkl (by decide)), hc _ _ (flat4_at l k 3 hkl (by decide))⟩
/-- The same for a place known. -/
theorem VRow.of {b off : Nat} (h : VRow w B (some ⟨b, off, none⟩) n l) {k : Nat} (hk : k < n) :
    w.cell? ⟨b, off + k * 4, none⟩ = some (.string l[k]!.name) ∧ w.cell? ⟨b, off + k * 4 + 1, none⟩ = some (.int .i64 l[k]!.kind) ∧
      w.cell? ⟨b, off + k * 4 + 2, none⟩ = some (.int .i64 l[k]!.num) ∧ w.cell? ⟨b, off + k * 4 + 3, none⟩ = some (.string l[k]!.text) := by
  obtain ⟨b', off', he, _, h1, h2, h3, h4⟩ := h.at_ hk
  injection he with he
  injection he with e1 e2
  subst e1; subst e2
  exact ⟨h1, h2, h3, h4⟩
end
section
variable {w w' : World} {base n c : Nat} {e : TypeId} {A : Option Addr} {l : List Vr.V}
theorem OwnVars.row (h : OwnVars w base e A n c l) : VRow w w.heap.size A n l := RowS.own h
theorem OwnVars.len (h : OwnVars w base e A n c l) : l.length = n := h.row.len
theorem OwnVars.below (h : OwnVars w base e A n c l) {B : Nat} (hb : Below B w w') (hB : w.heap.size ≤ B) : OwnVars w' base e A n c l := own_below h hb hB
theorem OwnVars.lower {base' : Nat} (h : OwnVars w base e A n c l) (hb : base' ≤ base) : OwnVars w base' e A n c l := own_base h hb
theorem OwnVars.nn (h : OwnVars w base e A n c l) : A = none → n = 0 ∧ c = 0 := by
  obtain ⟨A', c', he, hA⟩ := own_form h
  injection he with h1 h2 h3
  subst h1; subst h3
  exact hA
theorem OwnVars.cap (h : OwnVars w base e A n c l) : n ≤ c := by
  rcases h.2 with ⟨hv, h0⟩ | ⟨g, cap, cur, hv, _, _, hc, _⟩
  · injection hv with _ _ h3; omega
  · injection hv with _ _ h3; omega
theorem OwnVars.most (h : OwnVars w base e A n c l) : c ≤ maxLen := by
  rcases h.2 with ⟨hv, h0⟩ | ⟨g, cap, cur, hv, _, _, _, hc, _⟩
  · injection hv with _ _ h3; subst h3; simp [maxLen]
  · injection hv with _ _ h3; omega
end
/-- A variable as a value. -/
def Vr.V.val (v : Vr.V) : Value := .agg #[.string v.name, .int .i64 v.kind, .int .i64 v.num, .string v.text]
/-- Its value alone. -/
def Vr.V.inner (v : Vr.V) : Value := .agg #[.int .i64 v.kind, .int .i64 v.num, .string v.text]
end Go.Proofs.YtlmlhjepolefaaaGreatDoor
namespace Go.Proofs.YtlmlhjepolefaaaGreatDoor
open Go.RowKit

/-- The sentinels that vars tells. -/
structure VaErrs (W : World) (E : Int → Option Addr) : Prop where
  e104 : ErrIn W E 104 1
  e105 : ErrIn W E 105 6
  e106 : ErrIn W E 106 7
  e109 : ErrIn W E 109 9
  e110 : ErrIn W E 110 10
theorem VaErrs.below {W w : World} {E : Int → Option Addr} (h : VaErrs W E) (hb : Below W.heap.size W w) : VaErrs w E :=
  ⟨h.e104.below hb, h.e105.below hb, h.e106.below hb, h.e109.below hb, h.e110.below hb⟩
def pos5 (c : Int) : Nat := if c = 104 then 0 else if c = 105 then 1 else if c = 106 then 2 else if c = 109 then 3 else if c = 110 then 4 else 1000
theorem vaErrs5 {W : World} {ads : List Addr} (hE : Errs W 185 [1, 6, 7, 9, 10] ads) : VaErrs W (errMap pos5 ads) where
  e104 := errIn_of hE 104 0 _ rfl rfl
  e105 := errIn_of hE 105 1 _ rfl rfl
  e106 := errIn_of hE 106 2 _ rfl rfl
  e109 := errIn_of hE 109 3 _ rfl rfl
  e110 := errIn_of hE 110 4 _ rfl rfl
theorem vaErrs16 {W : World} {ads : List Addr} (hE : Errs W 185 sents ads) : VaErrs W (errMap pos16 ads) where
  e104 := errIn_of hE 104 3 _ rfl rfl
  e105 := errIn_of hE 105 4 _ rfl rfl
  e106 := errIn_of hE 106 5 _ rfl rfl
  e109 := errIn_of hE 109 8 _ rfl rfl
  e110 := errIn_of hE 110 9 _ rfl rfl

/-- An error around a place, as a value: its block. -/
def atV (q : Nat) : Value := .iface 96 (.pointer (some ⟨q, 0, none⟩))
/-- What an error is seen as: none; a sentinel; one around a place. -/
inductive SeenF (E : Int → Option Addr) (w : World) : Value → Int → Option Nat → Prop
  | nil : SeenF E w .nilIface 0 none
  | bare (c : Int) (a : Addr) (h : E c = some a) (hc : c ≠ 0) : SeenF E w (errV a) c none
  | at_ (q : Nat) (c : Int) (a : Addr) (k : Nat) (h : E c = some a) (hc : c ≠ 0) (h0 : w.cell? ⟨q, 0, none⟩ = some (.int .i64 k)) (h1 : w.cell? ⟨q, 1, none⟩ = some (errV a)) : SeenF E w (atV q) c (some k)
theorem SeenF.below {E : Int → Option Addr} {w w' : World} {v : Value} {c : Int} {p : Option Nat} (h : SeenF E w v c p) {B : Nat} (hb : Below B w w') (hB : w.heap.size ≤ B) : SeenF E w' v c p := by
  cases h with
  | nil => exact .nil
  | bare c a h hc => exact .bare c a h hc
  | at_ q c a k h hc h0 h1 =>
    have hq : q < B := Nat.lt_of_lt_of_le (cell_lt h0) hB
    exact .at_ q c a k h hc ((hb.cell (p := ⟨q, 0, none⟩) hq).trans h0) ((hb.cell (p := ⟨q, 1, none⟩) hq).trans h1)
theorem SeenF.none_of {E : Int → Option Addr} {w : World} {v : Value} {p : Option Nat} (h : SeenF E w v 0 p) : v = .nilIface := by
  generalize hc : (0 : Int) = c at h
  cases h with
  | nil => rfl
  | bare c a h h0 => exact absurd hc.symm h0
  | at_ q c a k h h0 _ _ => exact absurd hc.symm h0
/-- One that is there: an interface value with a pointer in it. -/
theorem SeenF.some_of {E : Int → Option Addr} {w : World} {v : Value} {c : Int} {p : Option Nat} (h : SeenF E w v c p) (hc : c ≠ 0) : ∃ t a, v = .iface t (.pointer (some a)) := by
  cases h with
  | nil => exact absurd rfl hc
  | bare c a h h0 => exact ⟨_, _, rfl⟩
  | at_ q c a k h h0 _ _ => exact ⟨_, _, rfl⟩


end Go.Proofs.YtlmlhjepolefaaaGreatDoor
