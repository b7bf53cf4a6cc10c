/- Mathematics of processes: those without loops have no ring; their topics are few. Rows of numbers in memory; the flows from, to a node as a list of places. The program's isNode. -/
import Derived.Test.YtjdgloofdafebaaGcY
import Derived.Test.YtjdgloofdafebaaYReachSays2
import Derived.Test.YtjdgloofdafebaaGiY
import Derived.Test.YtjdgloofdafebaaYReachSays1
import Derived.Test.YtjdgloofdafebaaGnY
namespace Go.Proofs.Ytjdgloofdafebaa
open Go.RowKit

namespace Pr
/-- Each flow leads to what ranks higher. -/
def Rk (p : P) (r : Nat → Nat) : Prop := ∀ f ∈ p.flows, ∃ a b : Nat, f.frm = a ∧ f.til = b ∧ a < p.n ∧ b < p.n ∧ r a < r b
def up (r : Nat → Nat) (k v : Nat) : Nat → Nat := fun i => if i = k then v else r i
theorem up_at (r : Nat → Nat) (k v : Nat) : up r k v k = v := if_pos rfl
theorem up_ne (r : Nat → Nat) {k i : Nat} (v : Nat) (h : i ≠ k) : up r k v i = r i := if_neg h
section
variable {p : P} {r : Nat → Nat} {at_ : Nat}
theorem Rk.node (h : Rk p r) (x : Nd) (v : Nat) : Rk (p.node x) (up r p.n v) := by
  intro f hf
  obtain ⟨a, b, h1, h2, h3, h4, h5⟩ := h f hf
  exact ⟨a, b, h1, h2, by rw [node_n]; omega, by rw [node_n]; omega, by rw [up_ne _ _ (Nat.ne_of_lt h3), up_ne _ _ (Nat.ne_of_lt h4)]; exact h5⟩
theorem Rk.join (h : Rk p r) {a b : Nat} (c : ByteArray) (ha : a < p.n) (hb : b < p.n) (hr : r a < r b) : Rk (p.join a b c) r := by
  intro f hf
  have hf' : f ∈ p.flows ++ [⟨a, b, c⟩] := hf
  rw [List.mem_append, List.mem_singleton] at hf'
  rcases hf' with hf' | rfl
  · exact h f hf'
  · exact ⟨a, b, rfl, rfl, ha, hb, hr⟩
theorem Rk.set (h : Rk p r) (k : Nat) (f : Nd → Nd) : Rk (p.set k f) r := by
  intro g hg
  obtain ⟨a, b, h1, h2, h3, h4, h5⟩ := h g hg
  exact ⟨a, b, h1, h2, by rw [set_n]; exact h3, by rw [set_n]; exact h4, h5⟩
theorem work_rk (h : Rk p r) (hl : at_ < p.n) (m : Int) : ∃ r', Rk (work p at_ m).1 r' := by
  have h1 := h.node (Nd.work (bs (topics m)) (nmb (m.tdiv 3) 10) (1 + nmb (m.tdiv 7) 3)) (r at_ + 1)
  have h2 := h1.join (a := at_) (b := p.n) no (by rw [node_n]; omega) (by rw [node_n]; omega) (by rw [up_at, up_ne _ _ (Nat.ne_of_lt hl)]; omega)
  have n2 : ((p.node (Nd.work (bs (topics m)) (nmb (m.tdiv 3) 10) (1 + nmb (m.tdiv 7) 3))).join at_ p.n no).n = p.n + 1 := by rw [join_n, node_n]
  unfold work
  by_cases hm : nmb (m.tdiv 5) 4 = 0
  · simp only [hm, if_true]
    rw [set_join_set]
    generalize (p.node (Nd.work (bs (topics m)) (nmb (m.tdiv 3) 10) (1 + nmb (m.tdiv 7) 3))).join at_ p.n no = p1 at *
    generalize hr1 : up r p.n (r at_ + 1) = r1 at *
    have h3 := h2.node (Nd.plain 2) (r1 p.n + 1)
    have h4 := h3.join (a := p.n) (b := p1.n) no (by rw [node_n]; omega) (by rw [node_n]; omega) (by rw [up_at, up_ne _ _ (by omega)]; omega)
    exact ⟨_, h4.set _ _⟩
  · simp only [hm, if_false]
    exact ⟨_, h2⟩
theorem way_rk {a b : Nat} (h : Rk p r) (ha : a < p.n) (hb : b < p.n) (hr : r a + 2 ≤ r b) (m open_ : Int) (j : Nat) :
    ∃ r', Rk (way a b m open_ j p) r' ∧ r' a = r a ∧ r' b = r b ∧ p.n ≤ (way a b m open_ j p).n := by
  have last : ∀ (q : P) (r1 : Nat → Nat) (t : Nat) (c : ByteArray) (d : Prop) [Decidable d], Rk q r1 → a < q.n → t < q.n → r1 a < r1 t → Rk (if d then (q.join a t c).set a (fun x => { x with dflt := q.m }) else q.join a t c) r1 ∧ (if d then (q.join a t c).set a (fun x => { x with dflt := q.m }) else q.join a t c).n = q.n := by
    intro q r1 t c d _ hq h1 h2 h3
    have := hq.join (a := a) (b := t) c h1 h2 h3
    by_cases hd : d
    · simp only [hd, if_true]; exact ⟨this.set _ _, by rw [set_n, join_n]⟩
    · simp only [hd, if_false]; exact ⟨this, by rw [join_n]⟩
  unfold way
  by_cases hm : nmb (m / 2 ^ j) 2 = 0
  · simp only [hm, if_true]
    have h1 := h.node (Nd.work (bs (topics (wrap64 (m + j)))) j 2) (r a + 1)
    have h2 := h1.join (a := p.n) (b := b) no (by rw [node_n]; omega) (by rw [node_n]; omega) (by rw [up_at, up_ne _ _ (Nat.ne_of_lt hb)]; omega)
    obtain ⟨k1, k2⟩ := last _ _ p.n _ (open_ ≠ 6 ∧ j = 0 ∧ 0 < nmb (m.tdiv 11) 4) h2 (by rw [join_n, node_n]; omega) (by rw [join_n, node_n]; omega) (by rw [up_at, up_ne _ _ (Nat.ne_of_lt ha)]; omega)
    exact ⟨_, k1, up_ne _ _ (Nat.ne_of_lt ha), up_ne _ _ (Nat.ne_of_lt hb), by rw [k2, join_n, node_n]; omega⟩
  · simp only [hm, if_false]
    obtain ⟨k1, k2⟩ := last p r b _ (open_ ≠ 6 ∧ j = 0 ∧ 0 < nmb (m.tdiv 11) 4) h ha hb (by omega)
    exact ⟨_, k1, rfl, rfl, by rw [k2]; omega⟩
theorem ways_rk {a b : Nat} (h : Rk p r) (ha : a < p.n) (hb : b < p.n) (hr : r a + 2 ≤ r b) (m open_ : Int) : ∀ j, ∃ r', Rk (ways a b m open_ j p) r' ∧ r' a = r a ∧ r' b = r b ∧ p.n ≤ (ways a b m open_ j p).n
  | 0 => ⟨r, h, rfl, rfl, Nat.le_refl _⟩
  | j + 1 => by
    obtain ⟨r1, h1, h2, h3, h4⟩ := ways_rk h ha hb hr m open_ j
    have hw : ways a b m open_ (j + 1) p = way a b m open_ j (ways a b m open_ j p) := rfl
    rw [hw]
    obtain ⟨r2, k1, k2, k3, k4⟩ := way_rk h1 (Nat.lt_of_lt_of_le ha h4) (Nat.lt_of_lt_of_le hb h4) (by rw [h2, h3]; exact hr) m open_ j
    exact ⟨r2, k1, k2.trans h2, k3.trans h3, by omega⟩
theorem parts_rk (h : Rk p r) (hl : at_ < p.n) (m open_ shut : Int) : ∃ r', Rk (parts p at_ m open_ shut).1 r' := by
  have h1 := h.node (Nd.plain open_) (r at_ + 1)
  have h2 := h1.join (a := at_) (b := p.n) no (by rw [node_n]; omega) (by rw [node_n]; omega) (by rw [up_at, up_ne _ _ (Nat.ne_of_lt hl)]; omega)
  have n2 : ((p.node (Nd.plain open_)).join at_ p.n no).n = p.n + 1 := by rw [join_n, node_n]
  unfold parts
  simp only []
  generalize (p.node (Nd.plain open_)).join at_ p.n no = p1 at *
  generalize hr1 : up r p.n (r at_ + 1) = r1 at *
  have h3 := h2.node (Nd.plain shut) (r1 p.n + 2)
  obtain ⟨r2, k1, _⟩ := ways_rk h3 (a := p.n) (b := p.n + 1) (by rw [node_n]; omega) (by rw [node_n]; omega) (by rw [n2, up_at, up_ne _ _ (by omega)]; omega) m open_ (2 + nmb m 2).toNat
  exact ⟨r2, k1⟩
theorem pieces_rk (kinds more : List Int) : ∀ i, ∃ r, Rk (pieces false kinds more i).1 r
  | 0 => ⟨fun _ => 0, fun f hf => by cases hf⟩
  | i + 1 => by
    obtain ⟨r, h⟩ := pieces_rk kinds more i
    have hl := (pieces_st false kinds more i).1.lt
    unfold pieces
    simp only []
    split
    · unfold piece
      simp only []
      split
      · exact work_rk h hl _
      split
      · exact parts_rk h hl _ _ _
      split
      · exact parts_rk h hl _ _ _
      split
      · exact parts_rk h hl _ _ _
      rw [if_neg (by decide)]
      exact work_rk h hl _
    · exact ⟨r, h⟩
theorem good_rk (kinds more : List Int) : ∃ r, Rk (good kinds more false) r := by
  obtain ⟨r, h⟩ := pieces_rk kinds more kinds.length
  have hl := (pieces_st false kinds more kinds.length).1.lt
  unfold good
  generalize pieces false kinds more kinds.length = q at *
  obtain ⟨q, at_⟩ := q
  dsimp only at *
  have h1 := h.node (Nd.plain 2) (r at_ + 1)
  exact ⟨_, h1.join (a := at_) (b := q.n) no (by rw [node_n]; omega) (by rw [node_n]; omega) (by rw [up_at, up_ne _ _ (Nat.ne_of_lt hl)]; omega)⟩
end
end Pr
end Go.Proofs.Ytjdgloofdafebaa
namespace Go.Proofs.Ytjdgloofdafebaa
open Go.RowKit

namespace Pr
/-- Rows of numbers. -/
def iκ : Cs Int := ⟨1, fun x => [.int .i64 x], fun _ => rfl, fun x u hu => by obtain rfl := List.mem_singleton.1 hu; rfl⟩
theorem iκ_cells {w : World} {b off n B : Nat} {l : List Int} (h : KRow iκ w B (some ⟨b, off, none⟩) n l) {j : Nat} (hj : j < n) : w.cell? ⟨b, off + j, none⟩ = some (.int .i64 l[j]!) := by
  have := KRow.of (κ := iκ) h (by decide) hj 0 (.int .i64 l[j]!) rfl
  rwa [show off + j * iκ.k + 0 = off + j from by show off + j * 1 + 0 = off + j; omega] at this
theorem info_int : (Try.prog.info? 3).map (fun i => (i.zero, i.size, i.bytes)) = some (some (.int .i64 0), 1, 8) := by kernel_rfl

def outsB (p : P) (i : Int) : List Nat := (List.range p.m).filter fun j => decide (0 ≤ i) && (decide (i < p.n) && ((p.flows[j]!).frm == i))
def insB (p : P) (i : Int) : List Nat := (List.range p.m).filter fun j => decide (0 ≤ i) && (decide (i < p.n) && ((p.flows[j]!).til == i))
theorem outsB_in (p : P) {i : Nat} (h : i < p.n) : outsB p (i : Int) = outsL p i := by
  unfold outsB outsL
  congr 1
  funext j
  have h1 : decide ((0 : Int) ≤ (i : Int)) = true := decide_eq_true (by omega)
  have h2 : decide ((i : Int) < (p.n : Int)) = true := decide_eq_true (by omega)
  rw [h1, h2]; rfl
theorem insB_in (p : P) {i : Nat} (h : i < p.n) : insB p (i : Int) = insL p i := by
  unfold insB insL
  congr 1
  funext j
  have h1 : decide ((0 : Int) ≤ (i : Int)) = true := decide_eq_true (by omega)
  have h2 : decide ((i : Int) < (p.n : Int)) = true := decide_eq_true (by omega)
  rw [h1, h2]; rfl
/-- The eight cells of a node in a row. -/
theorem nd_at {w : World} {B : Nat} {b off n : Nat} {l : List Nd} (h : KRow Nd.κ w B (some ⟨b, off, none⟩) n l) {j : Nat} (hj : j < n) :
    w.cell? ⟨b, off + j * 8, none⟩ = some (.int .i64 (l[j]!).kind) ∧ w.cell? ⟨b, off + j * 8 + 1, none⟩ = some (.string (l[j]!).topic) ∧ w.cell? ⟨b, off + j * 8 + 2, none⟩ = some (.int .i64 (l[j]!).prio) ∧
    w.cell? ⟨b, off + j * 8 + 3, none⟩ = some (.int .i64 (l[j]!).retr) ∧ w.cell? ⟨b, off + j * 8 + 4, none⟩ = some (.int .i64 (l[j]!).dflt) ∧ w.cell? ⟨b, off + j * 8 + 5, none⟩ = some (.string (l[j]!).code) ∧
    w.cell? ⟨b, off + j * 8 + 6, none⟩ = some (.string (l[j]!).caught) ∧ w.cell? ⟨b, off + j * 8 + 7, none⟩ = some (.int .i64 (l[j]!).tgt) := by
  have := KRow.of (κ := Nd.κ) h (by decide) hj
  exact ⟨this 0 _ rfl, this 1 _ rfl, this 2 _ rfl, this 3 _ rfl, this 4 _ rfl, this 5 _ rfl, this 6 _ rfl, this 7 _ rfl⟩
/-- The three cells of a flow in a row. -/
theorem fl_at {w : World} {B : Nat} {b off n : Nat} {l : List Fl} (h : KRow Fl.κ w B (some ⟨b, off, none⟩) n l) {j : Nat} (hj : j < n) :
    w.cell? ⟨b, off + j * 3, none⟩ = some (.int .i64 (l[j]!).frm) ∧ w.cell? ⟨b, off + j * 3 + 1, none⟩ = some (.int .i64 (l[j]!).til) ∧ w.cell? ⟨b, off + j * 3 + 2, none⟩ = some (.string (l[j]!).cond) := by
  have := KRow.of (κ := Fl.κ) h (by decide) hj
  exact ⟨this 0 _ rfl, this 1 _ rfl, this 2 _ rfl⟩
end Pr
end Go.Proofs.Ytjdgloofdafebaa
namespace Go.Proofs.Ytjdgloofdafebaa
open Go.RowKit

namespace Pr
section
variable {w : World}
end
end Pr
end Go.Proofs.Ytjdgloofdafebaa
