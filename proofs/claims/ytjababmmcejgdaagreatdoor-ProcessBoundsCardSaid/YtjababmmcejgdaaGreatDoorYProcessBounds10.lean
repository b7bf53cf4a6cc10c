/- Rows of numbers in memory; the flows from, to a node as a list of places. Variables in memory: rows of four cells each. Walks of package vars: what is amiss with variables. -/
import Derived.Test.YtjababmmcejgdaaGreatDoorYProcessBounds9
import Derived.Test.YtjababmmcejgdaaGreatDoorYProcessBounds7
import Derived.Test.YtjababmmcejgdaaGreatDoorYProcessBounds1
import Derived.Test.YtjababmmcejgdaaGreatDoorAppY
import Derived.Test.YtjababmmcejgdaaGreatDoorVnY
import Derived.Test.YtjababmmcejgdaaGreatDoorYProcessBounds5
namespace Go.Proofs.YtjababmmcejgdaaGreatDoor
open Go.RowKit

namespace Pr
/-- Rows of numbers. -/
def iκ : Cs Int := ⟨1, fun x => [.int .i64 x], fun _ => rfl, fun x u hu => by obtain rfl := List.mem_singleton.1 hu; rfl⟩
theorem iκ_cells {w : World} {b off n B : Nat} {l : List Int} (h : KRow iκ w B (some ⟨b, off, none⟩) n l) {j : Nat} (hj : j < n) : w.cell? ⟨b, off + j, none⟩ = some (.int .i64 l[j]!) := by
  have := KRow.of (κ := iκ) h (by decide) hj 0 (.int .i64 l[j]!) rfl
  rwa [show off + j * iκ.k + 0 = off + j from by show off + j * 1 + 0 = off + j; omega] at this
theorem info_int : (Tryz.prog.info? 3).map (fun i => (i.zero, i.size, i.bytes)) = some (some (.int .i64 0), 1, 8) := by kernel_rfl

def outsB (p : P) (i : Int) : List Nat := (List.range p.m).filter fun j => decide (0 ≤ i) && (decide (i < p.n) && ((p.flows[j]!).frm == i))
def insB (p : P) (i : Int) : List Nat := (List.range p.m).filter fun j => decide (0 ≤ i) && (decide (i < p.n) && ((p.flows[j]!).til == i))
theorem outsB_in (p : P) {i : Nat} (h : i < p.n) : outsB p (i : Int) = outsL p i := by
  unfold outsB outsL
  congr 1
  funext j
  have h1 : decide ((0 : Int) ≤ (i : Int)) = true := decide_eq_true (by omega)
  have h2 : decide ((i : Int) < (p.n : Int)) = true := decide_eq_true (by omega)
  rw [h1, h2]; rfl
theorem insB_in (p : P) {i : Nat} (h : i < p.n) : insB p (i : Int) = insL p i := by
  unfold insB insL
  congr 1
  funext j
  have h1 : decide ((0 : Int) ≤ (i : Int)) = true := decide_eq_true (by omega)
  have h2 : decide ((i : Int) < (p.n : Int)) = true := decide_eq_true (by omega)
  rw [h1, h2]; rfl
/-- The eight cells of a node in a row. -/
theorem nd_at {w : World} {B : Nat} {b off n : Nat} {l : List Nd} (h : KRow Nd.κ w B (some ⟨b, off, none⟩) n l) {j : Nat} (hj : j < n) :
    w.cell? ⟨b, off + j * 8, none⟩ = some (.int .i64 (l[j]!).kind) ∧ w.cell? ⟨b, off + j * 8 + 1, none⟩ = some (.string (l[j]!).topic) ∧ w.cell? ⟨b, off + j * 8 + 2, none⟩ = some (.int .i64 (l[j]!).prio) ∧
    w.cell? ⟨b, off + j * 8 + 3, none⟩ = some (.int .i64 (l[j]!).retr) ∧ w.cell? ⟨b, off + j * 8 + 4, none⟩ = some (.int .i64 (l[j]!).dflt) ∧ w.cell? ⟨b, off + j * 8 + 5, none⟩ = some (.string (l[j]!).code) ∧
    w.cell? ⟨b, off + j * 8 + 6, none⟩ = some (.string (l[j]!).caught) ∧ w.cell? ⟨b, off + j * 8 + 7, none⟩ = some (.int .i64 (l[j]!).tgt) := by
  have := KRow.of (κ := Nd.κ) h (by decide) hj
  exact ⟨this 0 _ rfl, this 1 _ rfl, this 2 _ rfl, this 3 _ rfl, this 4 _ rfl, this 5 _ rfl, this 6 _ rfl, this 7 _ rfl⟩
/-- The three cells of a flow in a row. -/
theorem fl_at {w : World} {B : Nat} {b off n : Nat} {l : List Fl} (h : KRow Fl.κ w B (some ⟨b, off, none⟩) n l) {j : Nat} (hj : j < n) :
    w.cell? ⟨b, off + j * 3, none⟩ = some (.int .i64 (l[j]!).frm) ∧ w.cell? ⟨b, off + j * 3 + 1, none⟩ = some (.int .i64 (l[j]!).til) ∧ w.cell? ⟨b, off + j * 3 + 2, none⟩ = some (.string (l[j]!).cond) := by
  have := KRow.of (κ := Fl.κ) h (by decide) hj
  exact ⟨this 0 _ rfl, this 1 _ rfl, this 2 _ rfl⟩
end Pr
end Go.Proofs.YtjababmmcejgdaaGreatDoor
namespace Go.Proofs.YtjababmmcejgdaaGreatDoor
open Go.RowKit

theorem flat4_len (l : List Vr.V) : (l.flatMap Vr.V.cells).length = l.length * 4 := by
  induction l with
  | nil => rfl
  | cons y l ih => simp only [List.flatMap_cons, List.length_append, List.length_cons, ih, Vr.V.cells_len]; omega
theorem flat4_at : ∀ (l : List Vr.V) (j i : Nat) (hj : j < l.length), i < 4 → (l.flatMap Vr.V.cells)[j * 4 + i]? = (l[j].cells)[i]?
  | y :: l, 0, i, _, hi => by
    rw [List.flatMap_cons, List.getElem?_append_left (by simp; omega)]
    simp
  | y :: l, j + 1, i, hj, hi => by
    rw [List.flatMap_cons, List.getElem?_append_right (by simp; omega)]
    have := flat4_at l j i (by simpa using hj) hi
    rw [show (j + 1) * 4 + i - y.cells.length = j * 4 + i from by simp; omega, this]
    simp
theorem flat4_one (l : List Vr.V) : ∀ u ∈ l.flatMap Vr.V.cells, u.oneCell' = true := by
  intro u hu
  obtain ⟨v, _, hv⟩ := List.mem_flatMap.1 hu
  simp only [Vr.V.cells, List.mem_cons, List.not_mem_nil, or_false] at hv
  rcases hv with rfl | rfl | rfl | rfl <;> rfl

/-- A slice of variables. -/
def VRow (w : World) (B : Nat) (A : Option Addr) (n : Nat) (l : List Vr.V) : Prop := RowS w B 4 A n (l.flatMap Vr.V.cells)
/-- One of one's own. -/
def OwnVars (w : World) (base : Nat) (e : TypeId) (A : Option Addr) (n c : Nat) (l : List Vr.V) : Prop := w.ownsRow base e 4 (.slice A n c) n (l.flatMap Vr.V.cells)
section
variable {w w' : World} {B B' n : Nat} {A : Option Addr} {l : List Vr.V}
theorem VRow.len (h : VRow w B A n l) : l.length = n := by
  have := h.1
  rw [flat4_len] at this
  omega
theorem VRow.nil (w : World) (B : Nat) (A : Option Addr) : VRow w B A 0 [] := RowS.nil w B 4 A
theorem VRow.below (h : VRow w B A n l) {b0 : Nat} (hb : Below b0 w w') (hB : B ≤ b0) : VRow w' B A n l := RowS.below h hb hB
theorem VRow.mono (h : VRow w B A n l) (hB : B ≤ B') : VRow w B' A n l := RowS.mono h hB
theorem VRow.drew (h : VRow w B A n l) : VRow w.drew B A n l := h
theorem VRow.at_ (h : VRow w B A n l) {k : Nat} (hk : k < n) :
    ∃ b off, A = some ⟨b, off, none⟩ ∧ b < B ∧ w.cell? ⟨b, off + k * 4, none⟩ = some (.string l[k]!.name) ∧ w.cell? ⟨b, off + k * 4 + 1, none⟩ = some (.int .i64 l[k]!.kind) ∧
      w.cell? ⟨b, off + k * 4 + 2, none⟩ = some (.int .i64 l[k]!.num) ∧ w.cell? ⟨b, off + k * 4 + 3, none⟩ = some (.string l[k]!.text) := by
  have hl := h.len
  have hkl : k < l.length := by omega
  obtain ⟨b, off, rfl, hb, hc⟩ := h.2 (by omega)
  rw [show l[k]! = l[k] from getElem!_pos l k hkl]
  exact ⟨b, off, rfl, hb, hc _ _ (flat4_at l k 0 hkl (by decide)), hc _ _ (flat4_at l k 1 hkl (by decide)), hc _ _ (flat4_at l k 2 hkl (by decide)), hc _ _ (flat4_at l k 3 hkl (by decide))⟩
/-- The same for a place known. -/
theorem VRow.of {b off : Nat} (h : VRow w B (some ⟨b, off, none⟩) n l) {k : Nat} (hk : k < n) :
    w.cell? ⟨b, off + k * 4, none⟩ = some (.string l[k]!.name) ∧ w.cell? ⟨b, off + k * 4 + 1, none⟩ = some (.int .i64 l[k]!.kind) ∧
      w.cell? ⟨b, off + k * 4 + 2, none⟩ = some (.int .i64 l[k]!.num) ∧ w.cell? ⟨b, off + k * 4 + 3, none⟩ = some (.string l[k]!.text) := by
  obtain ⟨b', off', he, _, h1, h2, h3, h4⟩ := h.at_ hk
  injection he with he
  injection he with e1 e2
  subst e1; subst e2
  exact ⟨h1, h2, h3, h4⟩
end
section
variable {w w' : World} {base n c : Nat} {e : TypeId} {A : Option Addr} {l : List Vr.V}
theorem OwnVars.row (h : OwnVars w base e A n c l) : VRow w w.heap.size A n l := RowS.own h
theorem OwnVars.len (h : OwnVars w base e A n c l) : l.length = n := h.row.len
theorem OwnVars.below (h : OwnVars w base e A n c l) {B : Nat} (hb : Below B w w') (hB : w.heap.size ≤ B) : OwnVars w' base e A n c l := own_below h hb hB
theorem OwnVars.lower {base' : Nat} (h : OwnVars w base e A n c l) (hb : base' ≤ base) : OwnVars w base' e A n c l := own_base h hb
theorem OwnVars.nn (h : OwnVars w base e A n c l) : A = none → n = 0 ∧ c = 0 := by
  obtain ⟨A', c', he, hA⟩ := own_form h
  injection he with h1 h2 h3
  subst h1; subst h3
  exact hA
theorem OwnVars.cap (h : OwnVars w base e A n c l) : n ≤ c := by
  rcases h.2 with ⟨hv, h0⟩ | ⟨g, cap, cur, hv, _, _, hc, _⟩
  · injection hv with _ _ h3; omega
  · injection hv with _ _ h3; omega
theorem OwnVars.most (h : OwnVars w base e A n c l) : c ≤ maxLen := by
  rcases h.2 with ⟨hv, h0⟩ | ⟨g, cap, cur, hv, _, _, _, hc, _⟩
  · injection hv with _ _ h3; subst h3; simp [maxLen]
  · injection hv with _ _ h3; omega
end
/-- A variable as a value. -/
def Vr.V.val (v : Vr.V) : Value := .agg #[.string v.name, .int .i64 v.kind, .int .i64 v.num, .string v.text]
/-- Its value alone. -/
def Vr.V.inner (v : Vr.V) : Value := .agg #[.int .i64 v.kind, .int .i64 v.num, .string v.text]
end Go.Proofs.YtjababmmcejgdaaGreatDoor
namespace Go.Proofs.YtjababmmcejgdaaGreatDoor
open Go.RowKit

/-- The sentinels that vars tells. -/
structure VaErrs (W : World) (E : Int → Option Addr) : Prop where
  e104 : ErrIn W E 104 1
  e105 : ErrIn W E 105 4
  e106 : ErrIn W E 106 0
  e109 : ErrIn W E 109 10
  e110 : ErrIn W E 110 11
theorem VaErrs.below {W w : World} {E : Int → Option Addr} (h : VaErrs W E) (hb : Below W.heap.size W w) : VaErrs w E :=
  ⟨h.e104.below hb, h.e105.below hb, h.e106.below hb, h.e109.below hb, h.e110.below hb⟩
def pos5 (c : Int) : Nat := if c = 104 then 0 else if c = 105 then 1 else if c = 106 then 2 else if c = 109 then 3 else if c = 110 then 4 else 1000
theorem vaErrs5 {W : World} {ads : List Addr} (hE : Errs W 213 [1, 4, 0, 10, 11] ads) : VaErrs W (errMap pos5 ads) where
  e104 := errIn_of hE 104 0 _ rfl rfl
  e105 := errIn_of hE 105 1 _ rfl rfl
  e106 := errIn_of hE 106 2 _ rfl rfl
  e109 := errIn_of hE 109 3 _ rfl rfl
  e110 := errIn_of hE 110 4 _ rfl rfl
theorem vaErrs16 {W : World} {ads : List Addr} (hE : Errs W 213 sents ads) : VaErrs W (errMap pos16 ads) where
  e104 := errIn_of hE 104 3 _ rfl rfl
  e105 := errIn_of hE 105 4 _ rfl rfl
  e106 := errIn_of hE 106 5 _ rfl rfl
  e109 := errIn_of hE 109 8 _ rfl rfl
  e110 := errIn_of hE 110 9 _ rfl rfl

/-- An error around a place, as a value: its block. -/
def atV (q : Nat) : Value := .iface 65 (.pointer (some ⟨q, 0, none⟩))
/-- What an error is seen as: none; a sentinel; one around a place. -/
inductive SeenF (E : Int → Option Addr) (w : World) : Value → Int → Option Nat → Prop
  | nil : SeenF E w .nilIface 0 none
  | bare (c : Int) (a : Addr) (h : E c = some a) (hc : c ≠ 0) : SeenF E w (errV a) c none
  | at_ (q : Nat) (c : Int) (a : Addr) (k : Nat) (h : E c = some a) (hc : c ≠ 0) (h0 : w.cell? ⟨q, 0, none⟩ = some (.int .i64 k)) (h1 : w.cell? ⟨q, 1, none⟩ = some (errV a)) : SeenF E w (atV q) c (some k)
theorem SeenF.below {E : Int → Option Addr} {w w' : World} {v : Value} {c : Int} {p : Option Nat} (h : SeenF E w v c p) {B : Nat} (hb : Below B w w') (hB : w.heap.size ≤ B) : SeenF E w' v c p := by
  cases h with
  | nil => exact .nil
  | bare c a h hc => exact .bare c a h hc
  | at_ q c a k h hc h0 h1 =>
    have hq : q < B := Nat.lt_of_lt_of_le (cell_lt h0) hB
    exact .at_ q c a k h hc ((hb.cell (p := ⟨q, 0, none⟩) hq).trans h0) ((hb.cell (p := ⟨q, 1, none⟩) hq).trans h1)
theorem SeenF.none_of {E : Int → Option Addr} {w : World} {v : Value} {p : Option Nat} (h : SeenF E w v 0 p) : v = .nilIface := by
  generalize hc : (0 : Int) = c at h
  cases h with
  | nil => rfl
  | bare c a h h0 => exact absurd hc.symm h0
  | at_ q c a k h h0 _ _ => exact absurd hc.symm h0
/-- One that is there: an interface value with a pointer in it. -/
theorem SeenF.some_of {E : Int → Option Addr} {w : World} {v : Value} {c : Int} {p : Option Nat} (h : SeenF E w v c p) (hc : c ≠ 0) : ∃ t a, v = .iface t (.pointer (some a)) := by
  cases h with
  | nil => exact absurd rfl hc
  | bare c a h h0 => exact ⟨_, _, rfl⟩
  | at_ q c a k h h0 _ _ => exact ⟨_, _, rfl⟩


end Go.Proofs.YtjababmmcejgdaaGreatDoor
