/- Package again: the document's book: Keep, the walk. -/
import Derived.Test.YtfpennnbicclfaaAgy
import Derived.Deep.CutBlock
namespace Go.Proofs.Ytfpennnbicclfaa
open Go.RowKit

namespace Ag
def DkeepOut (w : World) (x : Nat) (A : Option Addr) (ps : List Pg) (b : Bool) (M : List Ab) (e : Ending) (w' : World) : Prop :=
  e = .returned (.bool b) ∧ ∃ A' n' c' ps', DcC w' x A' n' c' ps' ∧ ps'.map Pg.ab = M ∧ Kp (fun i => i = x) w w' ∧ ∀ i, DR A' ps' i → DR A ps i ∨ w.heap.size ≤ i
/-- Where the page stands that is looked for: found, or where it belongs. -/
structure AtP (ps : List Pg) (s : ByteArray) (i : Int) (qs : List Pg) (t : Nat) : Prop where
  lt : t < qs.length
  wkr : (qs[t]!).wkr = s
  mem : ∀ p ∈ qs, p ∈ ps ∨ p = ⟨s, i, none, 0, [], none, 0, []⟩
  set : ∀ X : Ab, X.wkr = s → (qs.map Pg.ab).set t X = ins Ab.wkr X (ps.map Pg.ab)
  base : baseA (ps.map Pg.ab) s i = if (qs[t]!).inc < i then ⟨s, i, [], []⟩ else (qs[t]!).ab
theorem AtP.found {ps : List Pg} {s : ByteArray} {i : Int} {t : Nat} (ha : Asc Pg.wkr ps) (ht : t < ps.length) (hw : (ps[t]!).wkr = s) : AtP ps s i ps t := by
  have e := getElem!_pos ps t ht
  refine ⟨ht, hw, fun p hp => .inl hp, fun X hX => ?_, ?_⟩
  · rw [ins_old Ab.wkr (map_asc Pg.wkr Ab.wkr Pg.ab ab_wkr ha) (t := t) (by simpa using ht) (by rw [List.getElem_map, ab_wkr, ← e, hw, hX])]
  · unfold baseA
    have h1 := at_of Pg.wkr ha (List.getElem_mem ht)
    rw [← e, hw] at h1
    rw [map_at Pg.wkr Ab.wkr Pg.ab ab_wkr, h1]
    rfl
theorem AtP.new {ps : List Pg} {s : ByteArray} {i : Int} {t : Nat} (ha : Asc Pg.wkr ps) (ht : t ≤ ps.length) (h1 : ∀ y ∈ ps.take t, ltb y.wkr s = true) (h2 : ∀ (h : t < ps.length), ltb (ps[t]).wkr s = false) (h3 : ∀ y ∈ ps, y.wkr ≠ s) :
    AtP ps s i (ps.take t ++ ⟨s, i, none, 0, [], none, 0, []⟩ :: ps.drop t) t := by
  have hl : (ps.take t).length = t := by rw [List.length_take]; omega
  have e : (ps.take t ++ (⟨s, i, none, 0, [], none, 0, []⟩ : Pg) :: ps.drop t)[t]! = ⟨s, i, none, 0, [], none, 0, []⟩ := by
    rw [getElem!_pos _ t (by simp; omega), List.getElem_append_right (by omega)]
    simp [hl]
  refine ⟨by simp; omega, by rw [e], fun p hp => ?_, fun X hX => ?_, ?_⟩
  · rcases List.mem_append.1 hp with hp | hp
    · exact .inl (List.mem_of_mem_take hp)
    · rcases List.mem_cons.1 hp with hp | hp
      · exact .inr hp
      · exact .inl (List.mem_of_mem_drop hp)
  · have hin : ins Ab.wkr X (ps.map Pg.ab) = (ps.map Pg.ab).take t ++ X :: (ps.map Pg.ab).drop t := ins_new Ab.wkr (map_asc Pg.wkr Ab.wkr Pg.ab ab_wkr ha) (by simpa using ht) (fun y hy => by
      rw [← List.map_take] at hy
      obtain ⟨p, hp, rfl⟩ := List.mem_map.1 hy
      rw [hX]
      exact h1 p hp) (fun h => by
      rw [List.getElem_map, hX]
      exact h2 (by simpa using h)) (fun y hy => by
      obtain ⟨p, hp, rfl⟩ := List.mem_map.1 hy
      rw [hX]
      exact h3 p hp)
    rw [hin, List.map_append, List.map_cons, List.map_take, List.map_drop, List.set_append, if_neg (by rw [List.length_take, List.length_map]; omega)]
    rw [show t - ((ps.map Pg.ab).take t).length = 0 by rw [List.length_take, List.length_map]; omega]
    rfl
  · rw [e]
    unfold baseA
    rw [map_at Pg.wkr Ab.wkr Pg.ab ab_wkr, (at_none Pg.wkr).2 h3]
    dsimp only [Option.map_none]
    rw [if_neg (Int.lt_irrefl i)]
    rfl
theorem OwnK.form {α : Type} {κ : Cs α} {w : World} {base n c : Nat} {e : TypeId} {A : Option Addr} {l : List α} (h : OwnK κ w base e A n c l) : (A = none ∧ n = 0) ∨ ∃ g, A = some ⟨g, 0, none⟩ ∧ base ≤ g := by
  rcases h.2.2 with ⟨hv, h0⟩ | ⟨g, cap, cur, hv, hg, _⟩
  · injection hv with h1; exact .inl ⟨h1, h0⟩
  · injection hv with h1; exact .inr ⟨g, h1, hg⟩
theorem nil_row (w : World) : OwnK rκ (w.alloc (.cells #[] 52)) w.heap.size 52 (some ⟨w.heap.size, 0, none⟩) 0 0 [] :=
  ⟨by decide, World.ownsRow_lit w (e := 52) (size := 4) #[] 0 (Nat.le_refl _) (by decide) rfl⟩
/-- Where at stands, as far as j. -/
def Atn (ps : List Pg) (s : ByteArray) (j : Nat) (a : Int) : Prop := (a = -1 ∧ ∀ y ∈ ps.take j, y.wkr ≠ s) ∨ ∃ t : Nat, t < j ∧ a = (t : Int) ∧ (ps[t]!).wkr = s
theorem Atn.step {ps : List Pg} {s : ByteArray} {j : Nat} {a : Int} (h : Atn ps s j a) (hj : j < ps.length) (hne : (ps[j]).wkr ≠ s) : Atn ps s (j + 1) a := by
  rcases h with ⟨h1, h2⟩ | ⟨t, h1, h2, h3⟩
  · refine .inl ⟨h1, fun y hy => ?_⟩
    rw [List.take_succ_eq_append_getElem hj] at hy
    rcases List.mem_append.1 hy with hy | hy
    · exact h2 y hy
    · rw [List.mem_singleton] at hy
      rw [hy]
      exact hne
  · exact .inr ⟨t, by omega, h2, h3⟩
theorem Atn.hit {ps : List Pg} {s : ByteArray} {j : Nat} (hj : j < ps.length) (he : (ps[j]).wkr = s) : Atn ps s (j + 1) (j : Int) := .inr ⟨j, by omega, rfl, by rw [getElem!_pos ps j hj]; exact he⟩
theorem less_before : ∀ x y : List UInt8, Op.bytesLess x y = bytesBefore x y
  | [], [] => rfl
  | [], _ :: _ => rfl
  | _ :: _, [] => rfl
  | a :: x, b :: y => by
    unfold Op.bytesLess bytesBefore
    rw [less_before x y]
theorem less_ltb (a b : ByteArray) : Op.bytesLess a.toList b.toList = ltb a b := by
  rw [less_before, ByteArray.toList_eq, ByteArray.toList_eq]
  rfl
theorem less_step {ps : List Pg} {s : ByteArray} {u : Nat} (hu : u < ps.length) (h : ∀ y ∈ ps.take u, ltb y.wkr s = true) (h2 : ltb (ps[u]).wkr s = true) : ∀ y ∈ ps.take (u + 1), ltb y.wkr s = true := fun y hy => by
  rw [List.take_succ_eq_append_getElem hu] at hy
  rcases List.mem_append.1 hy with hy | hy
  · exact h y hy
  · rw [List.mem_singleton] at hy
    rw [hy]
    exact h2
theorem nil_row' {w0 W : World} (h : Below w0.heap.size w0 W) : OwnK rκ (W.alloc (.cells #[] 52)) w0.heap.size 52 (some ⟨W.heap.size, 0, none⟩) 0 0 [] := (nil_row W).lower h.size
theorem OwnK.alloc {α : Type} {κ : Cs α} {w : World} {base n c : Nat} {e : TypeId} {A : Option Addr} {l : List α} (h : OwnK κ w base e A n c l) (o : Obj) : OwnK κ (w.alloc o) base e A n c l := h.below ((Below.refl _ _).alloc (Nat.le_refl _) _) (Nat.le_refl _)
theorem KRow.alloc {α : Type} {κ : Cs α} {w : World} {n : Nat} {A : Option Addr} {l : List α} (h : KRow κ w w.heap.size A n l) (o : Obj) : KRow κ (w.alloc o) (w.alloc o).heap.size A n l :=
  RowS.mono (RowS.below h ((Below.refl w.heap.size w).alloc (Nat.le_refl _) o) (Nat.le_refl _)) ((Below.refl w.heap.size w).alloc (Nat.le_refl _) o).size
theorem bel_alloc {w0 W : World} (h : Below w0.heap.size w0 W) (o : Obj) : Below w0.heap.size w0 (W.alloc o) := h.alloc h.size o
/-- A fresh page, as it lies. -/
def fr (s : ByteArray) (i : Int) : Pg := ⟨s, i, none, 0, [], none, 0, []⟩
theorem lit_row (W : World) (s : ByteArray) (i : Int) : KRow rκ (W.alloc (.cells #[.string s, .int .i64 i, .slice none 0 0, .slice none 0 0] 52)) (W.alloc (.cells #[.string s, .int .i64 i, .slice none 0 0, .slice none 0 0] 52)).heap.size (some ⟨W.heap.size, 0, none⟩) 1 [(fr s i).raw] :=
  RowS.mono (KRow.lit (κ := rκ) W 52 [(fr s i).raw] #[.string s, .int .i64 i, .slice none 0 0, .slice none 0 0] rfl) (by simp)
theorem KRow.grew {α : Type} {κ : Cs α} {w w' : World} {n m c g L : Nat} {v' : Value} {l : List α} (hg : Grew w w' (.slice (some ⟨g, 0, none⟩) m c) v') (h : KRow κ w w.heap.size (some ⟨L, 0, none⟩) n l) (hne : L ≠ g) : KRow κ w' w'.heap.size (some ⟨L, 0, none⟩) n l :=
  RowS.mono ((Kp.of_grew (S := fun i => i = g) hg (fun i _ e => (Option.some.inj e).symm)).row h (Nat.le_refl _) (fun _ a ha e => hne (by
    obtain rfl := Option.some.inj ha
    exact e))) hg.size
theorem kp_setCell (w : World) (g o : Nat) (v : Value) : Kp (fun i => i = g) w (w.setCell ⟨g, o, none⟩ v) := Kp.of_grown (grown_setCell _ _ _) (fun _ _ e => (Option.some.inj e).symm)
theorem kp_bel {g B : Nat} {w w' : World} (h : Kp (fun i => i = g) w w') (hB : B ≤ w.heap.size) (hg : B ≤ g) : Below B w w' := h.below hB (fun _ hi e => by omega)
/-- The page that is written on, as it lies. -/
theorem base_pg {w : World} {x : Nat} {A : Option Addr} {n c : Nat} {ps qs : List Pg} {s : ByteArray} {i : Int} {t : Nat} {bp qt : Pg} (hd : DcC w x A n c ps) (hf : ∀ p ∈ ps, p.keys.length ≤ 4) (hs : s.size ≤ 1000000) (hap : AtP ps s i qs t) (hqt : qs[t]! = qt) (hbp : bp = if qt.inc < i then fr s i else qt) :
    ∀ W, Below w.heap.size w W → PgAt W bp ∧ bp.rows.length = bp.keys.length ∧ bp.keys.length ≤ 4 ∧ bp.wkr = s ∧ ((bp.ka = none ∧ bp.ra = none ∧ bp.rows = []) ∨ bp ∈ ps) := fun W hW => by
  have hfr : PgAt W (fr s i) ∧ (fr s i).rows.length = (fr s i).keys.length ∧ (fr s i).keys.length ≤ 4 ∧ (fr s i).wkr = s ∧ (((fr s i).ka = none ∧ (fr s i).ra = none ∧ (fr s i).rows = []) ∨ fr s i ∈ ps) :=
    ⟨(fresh_in W s i hs).at_, rfl, Nat.zero_le _, rfl, .inl ⟨rfl, rfl, rfl⟩⟩
  by_cases h : qt.inc < i
  · rw [if_pos h] at hbp
    rw [hbp]
    exact hfr
  · rw [if_neg h] at hbp
    rw [hbp]
    have hm : qt ∈ qs := by rw [← hqt, getElem!_pos qs t hap.lt]; exact List.getElem_mem _
    rcases hap.mem qt hm with h1 | h1
    · have hw := hap.wkr
      rw [hqt] at hw
      exact ⟨(hd.pgs qt h1).1.below hW, (hd.pgs qt h1).2.1, hf qt h1, hw, .inr h1⟩
    · have h1 : qt = fr s i := h1
      rw [h1]
      exact hfr
theorem raw_set {qs : List Pg} {t : Nat} {y : Rw} (h : t < qs.length) : ((qs.map Pg.raw).set t y).length = qs.length ∧ ∃ h2, ((qs.map Pg.raw).set t y)[t]'h2 = y := by
  refine ⟨by simp, by simpa using h, by simp⟩
theorem setK_set {l : List Rw} {t : Nat} {y : Rw} {A : Option Addr} {n c : Nat} (h : t < l.length) : setK t A n c (l.set t y) = l.set t { y with ka := A, kn := n, kc := c } := by
  rw [setK_eq (by simpa using h)]
  simp
theorem setR_set {l : List Rw} {t : Nat} {y : Rw} {A : Option Addr} {n c : Nat} (h : t < l.length) : setR t A n c (l.set t y) = l.set t { y with ra := A, rn := n, rc := c } := by
  rw [setR_eq (by simpa using h)]
  simp
def bκ : Cs UInt8 := ⟨1, fun x => [bv x], fun _ => rfl, fun x u hu => by
  rw [List.mem_singleton] at hu
  subst hu
  rfl⟩
theorem b_flat (l : List UInt8) : l.flatMap bκ.cs = l.map bv := by
  induction l with
  | nil => rfl
  | cons x r ih => rw [List.flatMap_cons, ih]; rfl
/-- A reply of one's own. -/
def RpOwn (w : World) (b : Nat) (r : Part) : Prop := OwnBytes w b 5 r.a r.n r.c r.l ∧ r.n ≤ 1000000
theorem rp_new {w8 w : World} {base n c : Nat} {A : Option Addr} {l : List UInt8} (h : OwnBytes w base 5 A n c l) (hn : n ≤ 1000000) (hb : w8.heap.size ≤ base) : RpOwn w w8.heap.size ⟨A, n, c, l⟩ := ⟨own_base h hb, hn⟩
theorem rp_below {w w' : World} {b : Nat} {r : Part} (h : RpOwn w b r) (hb : Below w.heap.size w w') : RpOwn w' b r := ⟨h.1.below hb (Nat.le_refl _), h.2⟩
theorem rp_grew {w w' : World} {b base n c : Nat} {A : Option Addr} {l : List Part} {r : Part} {v' : Value} (h : RpOwn w b r) (hg : Grew w w' (.slice A n c) v') (ho : OwnK pκ w base 32 A n c l) : RpOwn w' b r := by
  have hk : OwnK bκ w b 5 r.a r.n r.c r.l := ⟨by decide, by rw [b_flat]; exact h.1⟩
  refine ⟨(Kp.of_grew (S := fun i => (Value.slice A n c).ownBlock = some i) hg (fun _ _ e => e)).rowOwn h.1 (fun i hi he => ?_), h.2⟩
  obtain ⟨a, ha, hai⟩ := ownB hi
  obtain ⟨a', ha', hai'⟩ := ownB he
  exact OwnK.apart ho hk (by decide) ha' ha (hai'.trans hai.symm)
theorem base_inc {ps qs : List Pg} {s : ByteArray} {i k : Int} {t : Nat} {bp qt : Pg} {r2 : List UInt8} (ha : Asc Pg.wkr ps) (hr : look (ps.map Pg.ab) s i k = (0, r2)) (hap : AtP ps s i qs t) (hqt : qs[t]! = qt) (hbp : bp = if qt.inc < i then fr s i else qt) :
    bp.inc = i ∧ (baseA (ps.map Pg.ab) s i).keys = bp.keys ∧ (baseA (ps.map Pg.ab) s i).reps = bp.rows.map Part.l := by
  rw [hap.base, hqt]
  by_cases h : qt.inc < i
  · rw [if_pos h] at hbp ⊢
    rw [hbp]
    exact ⟨rfl, rfl, rfl⟩
  · rw [if_neg h] at hbp ⊢
    subst hbp
    refine ⟨?_, rfl, rfl⟩
    have hm : bp ∈ qs := by rw [← hqt, getElem!_pos qs t hap.lt]; exact List.getElem_mem _
    rcases hap.mem bp hm with h1 | h1
    · have hw := hap.wkr
      rw [hqt] at hw
      have hat : at? Ab.wkr s (ps.map Pg.ab) = some bp.ab := by
        rw [map_at Pg.wkr Ab.wkr Pg.ab ab_wkr, ← hw, at_of Pg.wkr ha h1]
        rfl
      rw [look_at hat] at hr
      have e1 : bp.ab.inc = bp.inc := rfl
      rw [e1, if_neg h] at hr
      by_cases h2 : i < bp.inc
      · rw [if_pos h2] at hr
        cases hr
      · omega
    · rw [h1]
theorem dc_end {w wz : World} {x : Nat} {A : Option Addr} {n c : Nat} {ps qs : List Pg} {s : ByteArray} {i k : Int} {t g m c9 : Nat} {P : Pg} {rep : List UInt8}
    (hd : DcC w x A n c ps) (hs : s.size ≤ 1000000) (hap : AtP ps s i qs t) (hb : Below w.heap.size w wz) (row : KRow rκ wz wz.heap.size (some ⟨g, 0, none⟩) m ((qs.map Pg.raw).set t P.raw)) (hcap : m ≤ c9 ∧ c9 ≤ maxLen) (hm : m ≤ 7)
    (hP : PgAt wz P) (hPl : P.rows.length = P.keys.length) (hPw : P.wkr = s) (hblk : ∀ j, P.own j ∨ P.rd j → DR A ps j ∨ w.heap.size ≤ j) (hg : w.heap.size ≤ g)
    (hab : P.ab = ⟨s, i, pushed (baseA (ps.map Pg.ab) s i).keys k, pushed (baseA (ps.map Pg.ab) s i).reps rep⟩) :
    DkeepOut w x A ps true (kept (ps.map Pg.ab) s i k rep) (.returned (.bool true)) (wz.setCell ⟨x, 0, none⟩ (.slice (some ⟨g, 0, none⟩) m c9)) := by
  have hx : x < w.heap.size := hd.cel.lt
  have hne : ∀ j, DR A ps j ∨ w.heap.size ≤ j → j ≠ x := fun j h => by
    rcases h with h | h
    · exact hd.sep j h
    · omega
  have hall : ∀ p ∈ qs.set t P, (PgAt wz p ∧ p.rows.length = p.keys.length ∧ p.wkr.size ≤ 1000000) ∧ ∀ j, p.own j ∨ p.rd j → DR A ps j ∨ w.heap.size ≤ j := fun p hp => by
    rcases List.mem_or_eq_of_mem_set hp with h | rfl
    · rcases hap.mem p h with h1 | rfl
      · exact ⟨⟨(hd.pgs p h1).1.below hb, (hd.pgs p h1).2⟩, fun j hj => .inl (.inr ⟨p, h1, hj⟩)⟩
      · exact ⟨⟨(fresh_in wz s i hs).at_, rfl, hs⟩, fun j hj => by
          rcases hj with hj | hj
          · exact absurd hj fresh_own
          · exact absurd hj fresh_rd⟩
    · exact ⟨⟨hP, hPl, hPw ▸ hs⟩, hblk⟩
  have hk := kp_setCell wz x 0 (.slice (some ⟨g, 0, none⟩) m c9)
  have hdr : ∀ j, DR (some ⟨g, 0, none⟩) (qs.set t P) j → DR A ps j ∨ w.heap.size ≤ j := fun j hj => by
    rcases hj with ⟨a, ha, rfl⟩ | ⟨p, hp, hj⟩
    · obtain rfl := Option.some.inj ha
      exact .inr hg
    · exact (hall p hp).2 j hj
  have hrow : KRow rκ wz wz.heap.size (some ⟨g, 0, none⟩) m ((qs.set t P).map Pg.raw) := by
    rw [List.map_set]
    exact row
  refine ⟨rfl, some ⟨g, 0, none⟩, m, c9, qs.set t P, ⟨?cel, ?row, .inr ⟨g, 0, rfl⟩, hcap, ?pgs, by omega, fun j hj => hne j (hdr j hj)⟩, ?map, (Kp.of_below _ hb (Nat.le_refl _)).trans hk, hdr⟩
  case cel => exact (hd.cel.below hb (Nat.le_refl _)).set (i := 0) (by simp) _
  case row =>
    refine RowS.mono (hk.row hrow (Nat.le_refl _) (fun _ a ha e => ?_)) hk.size
    obtain rfl := Option.some.inj ha
    have e : g = x := e
    omega
  case pgs => exact fun p hp => ⟨(hall p hp).1.1.kept hk (fun j hj => hne j ((hall p hp).2 j hj)), (hall p hp).1.2⟩
  case map =>
    rw [List.map_set, hap.set P.ab (by rw [ab_wkr]; exact hPw)]
    unfold kept
    rw [hab]
theorem pg_b {w : World} {b1 b2 cK c' : Nat} {AK A' : Option Addr} {kl : List Int} {rl : List Part} (s : ByteArray) (i : Int) (hok : OwnK iκ w b1 3 AK kl.length cK kl) (hor : OwnK pκ w b2 32 A' rl.length c' rl) (hrep : ∀ r ∈ rl, RpIn w r) (hf : kl.length ≤ 1000 ∧ rl.length ≤ 1000) : PgAt w ⟨s, i, AK, cK, kl, A', c', rl⟩ :=
  ⟨OwnK.pl hok, OwnK.pl hor, hok.row, hor.row, hrep, hf, OwnK.caps hok⟩
theorem drop_row {α : Type} {κ : Cs α} {w : World} {base n c g : Nat} {e : TypeId} {l : List α} (h : OwnK κ w base e (some ⟨g, 0, none⟩) n c l) (hk : κ.k = 1) (hn : 1 ≤ n) : KRow κ w w.heap.size (some ⟨g, 1, none⟩) (l.drop 1).length (l.drop 1) := by
  have hl := OwnK.len h
  have h2 := KRow.slice (OwnK.row h) (by rw [hk]; decide) (i := 1) (m := n - 1) (by omega)
  rw [List.take_of_length_le (by rw [List.length_drop]; omega), hk] at h2
  rw [List.length_drop, hl]
  exact h2
theorem pg_a {w : World} {b1 b2 n1 n2 cK c' gk gr : Nat} {kl : List Int} {rl : List Part} (s : ByteArray) (i : Int) (hok : OwnK iκ w b1 3 (some ⟨gk, 0, none⟩) n1 cK kl) (hor : OwnK pκ w b2 32 (some ⟨gr, 0, none⟩) n2 c' rl) (hrep : ∀ r ∈ rl, RpIn w r) (h1 : 1 ≤ n1 ∧ n1 ≤ 1000) (h2 : 1 ≤ n2 ∧ n2 ≤ 1000) :
    PgAt w ⟨s, i, some ⟨gk, 1, none⟩, cK - 1, kl.drop 1, some ⟨gr, 1, none⟩, c' - 1, rl.drop 1⟩ := by
  have hl := OwnK.len hok
  have hl2 := OwnK.len hor
  have hc := OwnK.caps hok
  exact ⟨.inr ⟨gk, 1, rfl⟩, .inr ⟨gr, 1, rfl⟩, drop_row hok rfl h1.1, drop_row hor rfl h2.1, fun r hr => hrep r (List.mem_of_mem_drop hr), by dsimp only; rw [List.length_drop, List.length_drop]; omega, by dsimp only; rw [List.length_drop]; omega⟩
/-- The pages as they stand where all is in place: before the answer is written. -/
def Mid (w : World) (ps : List Pg) (s : ByteArray) (i k : Int) (base : Nat) (s9 s10 : Value) (wx : World) : Prop :=
  ∃ g m c9 qs t, s9 = .slice (some ⟨g, 0, none⟩) m c9 ∧ s10 = .int .i64 ((t : Nat) : Int) ∧ AtP ps s i qs t ∧ m ≤ 7 ∧ base ≤ g ∧ OwnK rκ wx base 52 (some ⟨g, 0, none⟩) m c9 (qs.map Pg.raw) ∧ Below w.heap.size w wx ∧ Cel wx w.heap.size [.string s, .int .i64 i, .int .i64 k]
set_option maxRecDepth 10000 in
set_option maxHeartbeats 3200000 in
theorem dkeep_any (x : Nat) (A : Option Addr) (n c : Nat) (ps : List Pg) (s : ByteArray) (i k : Int) (B : Option Addr) (rn rc : Nat) (rep : List UInt8) (w : World) (hd : DcC w x A n c ps) (ha : Asc Pg.wkr ps) (hs : s.size ≤ 1000000) (hf : ∀ p ∈ ps, p.keys.length ≤ 4) (hr : Bytes w w.heap.size B rn rep) (hn : rn ≤ 1000000) (hn6 : n ≤ 6) :
    Calls Try.prog 13 #[.pointer (some ⟨x, 0, none⟩), .agg #[.string s, .int .i64 i, .int .i64 k], .slice B rn rc] w (DkeepOut w x A ps (decide ((look (ps.map Pg.ab) s i k).1 = 0)) (keep (ps.map Pg.ab) s i k rep)) := by
  obtain ⟨r, hr0⟩ : ∃ r, look (ps.map Pg.ab) s i k = r := ⟨_, rfl⟩
  have hb1 : Below w.heap.size w (w.alloc (.cells #[.string s, .int .i64 i, .int .i64 k] 39)) := (Below.refl _ _).alloc (Nat.le_refl _) _
  have hc1 : Cel (w.alloc (.cells #[.string s, .int .i64 i, .int .i64 k] 39)) w.heap.size [.string s, .int .i64 i, .int .i64 k] := Cel.lit w #[.string s, .int .i64 i, .int .i64 k] 39
  have HLK := Lib.hid (dlook_any x A n c ps s i k _ (hd.below hb1))
  unfold keep
  rw [hr0] at HLK ⊢
  obtain ⟨r1, r2⟩ := r
  dsimp only at *
  have HD := Lib.hid hd
  have HA := Lib.hid ha
  have HF := Lib.hid hf
  have HRP := Lib.hid hr
  have HR0 := Lib.hid hr0
  have HB1 := Lib.hid hb1
  have HC1 := Lib.hid hc1
  have HL := Lib.hid hd.len
  obtain ⟨d0, d1, d2⟩ := cel3 hc1
  by_cases hz : r1 = 0
  · subst hz
    rw [if_pos rfl, decide_eq_true rfl]
    clear hd ha hf hr hr0 hb1 hc1
    obtain ⟨i0, hi0, hz0, hz1, hz2⟩ := info_parts info_dpg
    go_enter Try.func13, Try.ntmps13
    go_wp2_with fail
    generalize w.alloc _ = w1 at *
    (with_reducible refine HLK.out.mono ?_)
    rintro e w2 ⟨A2, n2, c2, rfl, _, _, hb2⟩
    have HB2 := Lib.hid (HB1.out.trans (hb2.mono HB1.out.size))
    have hd2 := HC1.out.below hb2 (Nat.le_refl _)
    have HC2 := Lib.hid hd2
    have hw2 : w.heap.size < w2.heap.size := hd2.lt
    clear d0 d1 d2 HB1 HC1 HLK hb2 hd2
    have hD2 := HD.out.below HB2.out
    have hb3 : Below w2.heap.size w2 (w2.alloc (.cells #[] 52)) := (Below.refl _ _).alloc (Nat.le_refl _) _
    have c0 := (hD2.below hb3).cel.cell 0 _ rfl
    have HNIL := Lib.hid (nil_row w2)
    have HROW := Lib.hid ((hD2.row.below hb3 (Nat.le_refl _)).mono (B' := (w2.alloc (.cells #[] 52)).heap.size) hb3.size)
    have HS3 := Lib.hid hb3.size
    have HB3 := Lib.hid hb3
    have HPL := Lib.hid HD.out.pl
    clear hD2 hb3
    go_wp2_with (at_builtin; refine append_kd (κ := rκ) rfl (.tmp 22) (.tmp 26) 29 52 i0 _ 72 Try.underlying29 hi0 hz0 hz1 hz2 rfl rfl _ w2.heap.size _ _ 0 0 [] A n c (ps.map Pg.raw) rfl HNIL.out rfl (fun h => by rcases HPL.out with ⟨_, h1, h2⟩ | ⟨b, o, h1⟩; exact ⟨h1, h2⟩; rw [h1] at h; cases h) HROW.out (by omega) (by omega) (by decide) HS3.out ?_; intro A4 c4 w4 ho4 hg4 hnn4; have hnn4 := Lib.hid (hnn4 (fun e => by cases e)); rw [Nat.zero_add] at ho4 hg4 ⊢; rw [List.nil_append] at ho4; have HB4 := Lib.hid (HB3.out.trans (hg4.below HNIL.out.2 HS3.out)); have HO4 := Lib.hid ho4; clear c0 HNIL HROW HS3 HB3 HPL hg4 ho4)
    go_loopw [10, 11] (fun s10 s11 wr => ∃ (j : Nat) (a : Int), s11 = .int .i64 j ∧ j ≤ n ∧ s10 = .int .i64 a ∧ Atn ps s j a ∧ Below w4.heap.size w4 wr) (fun _ s11 _ => n - (intOf s11).toNat)
    case atStart => exact ⟨0, -1, rfl, Nat.zero_le _, rfl, .inl ⟨rfl, fun y hy => (by cases hy)⟩, Below.refl _ _⟩
    case round =>
      obtain ⟨j, a, rfl, hj, rfl, hat, hbr⟩ := hrel
      have hj0 : (0 : Int) ≤ (j : Int) := by omega
      have HAT := Lib.hid hat
      have HBR := Lib.hid hbr
      have HOR := Lib.hid (HO4.out.below hbr (Nat.le_refl _))
      have hdr := HC2.out.below (HB4.out.trans (hbr.mono HB4.out.size)) (Nat.le_refl _)
      obtain ⟨d0, d1, d2⟩ := cel3 hdr
      clear hat hbr hdr
      by_cases hlt : j < n
      · have hI : (j : Int) < (n : Int) := by omega
        have hjl : j < ps.length := by have := HL.out; omega
        obtain ⟨g, rfl, hgb⟩ : ∃ g, A4 = some ⟨g, 0, none⟩ ∧ w2.heap.size ≤ g := by
          rcases OwnK.form HO4.out with ⟨_, h⟩ | h
          · omega
          · exact h
        obtain ⟨k0, k1, k2, k3⟩ := rw_cells HOR.out.row (j := j) (by rw [List.length_map]; exact hjl)
        rw [List.getElem_map, Nat.zero_add] at k0
        change wr.cell? ⟨g, j * 4, none⟩ = some (.string (ps[j]).wkr) at k0
        have htx := text_eq (ps[j]).wkr s
        have HST := Lib.hid (fun (h : (ps[j]).wkr ≠ s) => HAT.out.step hjl h)
        have HHI := Lib.hid (fun (h : (ps[j]).wkr = s) => Atn.hit hjl h)
        clear k1 k2 k3
        by_cases he : (ps[j]).wkr = s
        · have hh := Lib.hid (HHI.out he)
          have htx : ((ps[j]).wkr.toList == s.toList) = true := by rw [htx, decide_eq_true he]
          clear HST HHI
          generalize (ps[j]).wkr = wk at *
          go_upto_region 9 with (fail)
          go_quiet (fail)
          go_wp2
          go_roundw
          case rel => exact ⟨j + 1, j, by first | rfl | go_num, by omega, rfl, hh.out, HBR.out.trans ((by first | exact below_drewN (Below.refl _ _) _ | exact Below.refl _ _ : Below wr.heap.size wr _).mono HBR.out.size)⟩
          case measure =>
            simp only [intOf]
            omega
        · have hh := Lib.hid (HST.out he)
          have htx : ((ps[j]).wkr.toList == s.toList) = false := by rw [htx, decide_eq_false he]
          clear HST HHI
          generalize (ps[j]).wkr = wk at *
          go_upto_region 9 with (fail)
          go_quiet (fail)
          go_wp2
          go_roundw
          case rel => exact ⟨j + 1, a, by first | rfl | go_num, by omega, rfl, hh.out, HBR.out.trans ((by first | exact below_drewN (Below.refl _ _) _ | exact Below.refl _ _ : Below wr.heap.size wr _).mono HBR.out.size)⟩
          case measure =>
            simp only [intOf]
            omega
      · obtain rfl : j = n := by omega
        clear d0 d1 d2
        have HBW := Lib.hid (HB2.out.trans ((HB4.out.trans (HBR.out.mono HB4.out.size)).mono HB2.out.size))
        have HCR := Lib.hid (HC2.out.below (HB4.out.trans (HBR.out.mono HB4.out.size)) (Nat.le_refl _))
        have HWB := Lib.hid (HB4.out.trans (HBR.out.mono HB4.out.size)).size
        clear HB4 HC2 HBR HO4 hlt hj HB2
        generalize wr = w5 at *
        go_upto_if 44 with (fail)
        go_cut [9, 10, 12, 13] from 45 to 79 (fun s9 s10 _ _ wx => Mid w ps s i k w2.heap.size s9 s10 wx)
        case first =>
          rcases HAT.out with ⟨rfl, hno⟩ | ⟨t, ht, rfl, hw⟩
          · rw [List.take_of_length_le (by have := HL.out; omega)] at hno
            have HNO := Lib.hid hno
            clear hno HAT
            go_upto_block 2 with (fail)
            go_cut [12] from 45 to 61 (fun s12 wx => ∃ u : Nat, s12 = .int .i64 u ∧ u ≤ j ∧ (∀ y ∈ ps.take u, ltb y.wkr s = true) ∧ (∀ (h : u < ps.length), ltb (ps[u]).wkr s = false) ∧ Below w5.heap.size w5 wx)
            case first =>
              go_wp2_with fail
              go_loopw [12] (fun s12 wx => ∃ u : Nat, s12 = .int .i64 u ∧ u ≤ j ∧ (∀ y ∈ ps.take u, ltb y.wkr s = true) ∧ Below w5.heap.size w5 wx) (fun s12 _ => j - (intOf s12).toNat)
              case atStart => exact ⟨0, rfl, Nat.zero_le _, fun y hy => (by cases hy), Below.refl _ _⟩
              case round =>
                obtain ⟨u, rfl, hu, hlu, hbx⟩ := hrel
                have hu0 : (0 : Int) ≤ (u : Int) := by omega
                have HLU := Lib.hid hlu
                have HBX := Lib.hid hbx
                obtain ⟨d0, d1, d2⟩ := cel3 (HCR.out.below hbx (Nat.le_refl _))
                have HOX := Lib.hid (HOR.out.below hbx (Nat.le_refl _))
                clear hlu hbx
                by_cases hlt : u < j
                · have hI : (u : Int) < (j : Int) := by omega
                  have hul : u < ps.length := by have := HL.out; omega
                  obtain ⟨g, rfl, hgb⟩ : ∃ g, A4 = some ⟨g, 0, none⟩ ∧ w2.heap.size ≤ g := by
                    rcases OwnK.form HOR.out with ⟨_, h⟩ | h
                    · omega
                    · exact h
                  obtain ⟨k0, k1, k2, k3⟩ := rw_cells HOX.out.row (j := u) (by rw [List.length_map]; exact hul)
                  rw [List.getElem_map, Nat.zero_add] at k0
                  change wr.cell? ⟨g, u * 4, none⟩ = some (.string (ps[u]).wkr) at k0
                  have hle := less_ltb (ps[u]).wkr s
                  clear k1 k2 k3
                  have HN1 := Lib.hid (fun (h : ltb (ps[u]).wkr s = true) => less_step (s := s) hul HLU.out h)
                  have HN2 := Lib.hid (fun (h : ltb (ps[u]).wkr s = false) (h2 : u < ps.length) => h)
                  by_cases hb : ltb (ps[u]).wkr s = true
                  · have hn1 := Lib.hid (HN1.out hb)
                    rw [hb] at hle
                    clear HN1 HN2 hb
                    generalize (ps[u]).wkr = wk at *
                    go_upto_region 13 with (fail)
                    go_quiet (fail)
                    go_wp2
                    go_roundw
                    case rel => exact ⟨u + 1, by first | rfl | go_num, by omega, hn1.out, HBX.out.trans ((by first | exact below_drewN (Below.refl _ _) _ | exact Below.refl _ _ : Below wr.heap.size wr _).mono HBX.out.size)⟩
                    case measure =>
                      simp only [intOf]
                      omega
                  · have hb : ltb (ps[u]).wkr s = false := by simpa using hb
                    have hn2 := Lib.hid (HN2.out hb)
                    rw [hb] at hle
                    clear HN1 HN2 hb
                    obtain ⟨wk, hwk⟩ : ∃ wk, (ps[u]).wkr = wk := ⟨_, rfl⟩
                    rw [hwk] at k0 hle
                    clear hwk
                    go_upto_region 13 with (fail)
                    go_quiet (fail)
                    go_wp2
                    go_meet
                    exact ⟨u, rfl, by omega, HLU.out, hn2.out, HBX.out.trans ((by first | exact below_drewN (Below.refl _ _) _ | exact Below.refl _ _ : Below wr.heap.size wr _).mono HBX.out.size)⟩
                · obtain rfl : u = j := by omega
                  go_upto_region 13 with (fail)
                  go_quiet (fail)
                  go_wp2
                  go_meet
                  exact ⟨u, rfl, by omega, HLU.out, fun h => absurd HL.out (by omega), HBX.out.trans ((by first | exact below_drewN (Below.refl _ _) _ | exact Below.refl _ _ : Below wr.heap.size wr _).mono HBX.out.size)⟩
            case rest =>
              obtain ⟨u, rfl, hu, hlu, hst, hbx⟩ := hcut
              have HNEW := Lib.hid (AtP.new HA.out (by have := HL.out; omega) hlu hst HNO.out (i := i))
              have hu0 : (0 : Int) ≤ (u : Int) := by omega
              have huI : (u : Int) ≤ (j : Int) := by omega
              have hcj := (OwnK.caps HOR.out).1
              have hucI : (u : Int) ≤ (c4 : Int) := by omega
              have hjcI : (j : Int) ≤ (c4 : Int) := by omega
              have HBX := Lib.hid hbx
              obtain ⟨d0, d1, d2⟩ := cel3 (HCR.out.below hbx (Nat.le_refl _))
              clear hlu hst hbx HNO
              rcases OwnK.form HOR.out with ⟨h0, _⟩ | ⟨g, rfl, hgb⟩
              · exact absurd h0 hnn4.out
              · have HR1 := Lib.hid (fun (W : World) (hW : Below w5.heap.size w5 W) => RowS.mono (RowS.below (KRow.slice HOR.out.row (by decide) (i := 0) (m := u) (by omega)) hW (Nat.le_refl _)) hW.size)
                simp only [List.drop_zero, Nat.zero_mul, Nat.add_zero] at HR1
                go_upto_region 15 with (fail)
                have HX0 : Hid (Below w5.heap.size w5 wc.drew) := Lib.hid HBX.out.drew
                have HX1 : Hid (Below w5.heap.size w5 (wc.drew.alloc (.cells #[] 52))) := Lib.hid (bel_alloc HX0.out _)
                have HX2 : Hid (Below w5.heap.size w5 ((wc.drew.alloc (.cells #[] 52)).alloc (.cells #[.string s, .int .i64 i, .slice none 0 0, .slice none 0 0] 52))) := Lib.hid (bel_alloc HX1.out _)
                have HX3 : Hid (Below w5.heap.size w5 ((wc.drew.alloc (.cells #[.string s, .int .i64 i, .slice none 0 0, .slice none 0 0] 52)).alloc (.cells #[] 52))) := Lib.hid (bel_alloc (bel_alloc HX0.out _) _)
                have HN1 := Lib.hid (nil_row' HX0.out)
                have HN2 := Lib.hid (OwnK.alloc HN1.out (.cells #[.string s, .int .i64 i, .slice none 0 0, .slice none 0 0] 52))
                have hz3' : (wc.drew.alloc (.cells #[.string s, .int .i64 i, .slice none 0 0, .slice none 0 0] 52)).heap.size = wc.heap.size + 1 := by simp
                have HN3 : Hid (OwnK rκ ((wc.drew.alloc (.cells #[.string s, .int .i64 i, .slice none 0 0, .slice none 0 0] 52)).alloc (.cells #[] 52)) w5.heap.size 52 (some ⟨wc.heap.size + 1, 0, none⟩) 0 0 []) := Lib.hid (by rw [← hz3']; exact nil_row' (bel_alloc HX0.out _))
                clear hz3'
                have hz1' : (wc.drew.alloc (.cells #[] 52)).heap.size = wc.heap.size + 1 := by simp
                have HL2 : Hid (KRow rκ ((wc.drew.alloc (.cells #[] 52)).alloc (.cells #[.string s, .int .i64 i, .slice none 0 0, .slice none 0 0] 52)) ((wc.drew.alloc (.cells #[] 52)).alloc (.cells #[.string s, .int .i64 i, .slice none 0 0, .slice none 0 0] 52)).heap.size (some ⟨wc.heap.size + 1, 0, none⟩) 1 [(fr s i).raw]) := Lib.hid (by rw [← hz1']; exact lit_row (wc.drew.alloc (.cells #[] 52)) s i)
                clear hz1'
                have HL3 := Lib.hid (KRow.alloc (lit_row wc.drew s i) (.cells #[] 52))
                have HE2 : Hid (wc.heap.size + 1 ≠ wc.drew.heap.size) := Lib.hid (by simp)
                have HE3 : Hid (wc.drew.heap.size ≠ wc.heap.size + 1) := Lib.hid (by simp)
                go_region_held3 (fun w' => w'.cell? ⟨w.heap.size, 0, none⟩ = some (.string s) ∧ w'.cell? ⟨w.heap.size, 1, none⟩ = some (.int .i64 i)) (first | exact S65 | exact ⟨d0, d1⟩ | go_keep) (first
                  | (refine step_append_kd (κ := rκ) rfl (.tmp 61) (.tmp 64) 29 52 i0 _ 72 Try.underlying29 hi0 hz0 hz1 hz2 rfl rfl (wc.drew.alloc (.cells #[] 52)) w5.heap.size _ _ 0 0 [] ⟨g, 0, none⟩ u c4 ((ps.map Pg.raw).take u) rfl HN1.out rfl (HR1.out _ HX1.out) (by omega) (by omega) (by decide) HX1.out.size ?_
                     intro A65 c65 w65 ho65 hg65 _
                     rw [Nat.zero_add] at ho65 hg65 ⊢
                     rw [List.nil_append] at ho65
                     have HO65 := Lib.hid ho65
                     have HB65 := Lib.hid (HX1.out.trans (hg65.below HN1.out.2 HX1.out.size))
                     have S65 := (fun (h : _ ∧ _ ∧ _) => And.intro h.1 h.2.1) (cel3 (HCR.out.below HB65.out (Nat.le_refl _)))
                     clear ho65 hg65)
                  | (refine step_append_kd (κ := rκ) rfl (.tmp 61) (.tmp 64) 29 52 i0 _ 72 Try.underlying29 hi0 hz0 hz1 hz2 rfl rfl ((wc.drew.alloc (.cells #[] 52)).alloc (.cells #[.string s, .int .i64 i, .slice none 0 0, .slice none 0 0] 52)) w5.heap.size _ _ 0 0 [] ⟨g, 0, none⟩ u c4 ((ps.map Pg.raw).take u) rfl HN2.out rfl (HR1.out _ HX2.out) (by omega) (by omega) (by decide) HX2.out.size ?_
                     intro A65 c65 w65 ho65 hg65 _
                     rw [Nat.zero_add] at ho65 hg65 ⊢
                     rw [List.nil_append] at ho65
                     have HO65 := Lib.hid ho65
                     have HB65 := Lib.hid (HX2.out.trans (hg65.below HN2.out.2 HX2.out.size))
                     have S65 := (fun (h : _ ∧ _ ∧ _) => And.intro h.1 h.2.1) (cel3 (HCR.out.below HB65.out (Nat.le_refl _)))
                     have HLIT := Lib.hid (KRow.grew hg65 HL2.out HE2.out)
                     clear ho65 hg65)
                  | (refine step_append_kd (κ := rκ) rfl (.tmp 61) (.tmp 64) 29 52 i0 _ 72 Try.underlying29 hi0 hz0 hz1 hz2 rfl rfl ((wc.drew.alloc (.cells #[.string s, .int .i64 i, .slice none 0 0, .slice none 0 0] 52)).alloc (.cells #[] 52)) w5.heap.size _ _ 0 0 [] ⟨g, 0, none⟩ u c4 ((ps.map Pg.raw).take u) rfl HN3.out rfl (HR1.out _ HX3.out) (by omega) (by omega) (by decide) HX3.out.size ?_
                     intro A65 c65 w65 ho65 hg65 _
                     rw [Nat.zero_add] at ho65 hg65 ⊢
                     rw [List.nil_append] at ho65
                     have HO65 := Lib.hid ho65
                     have HB65 := Lib.hid (HX3.out.trans (hg65.below HN3.out.2 HX3.out.size))
                     have S65 := (fun (h : _ ∧ _ ∧ _) => And.intro h.1 h.2.1) (cel3 (HCR.out.below HB65.out (Nat.le_refl _)))
                     have HLIT := Lib.hid (KRow.grew hg65 HL3.out HE3.out)
                     clear ho65 hg65)
                  | (refine step_append_k (κ := rκ) rfl (.tmp 65) (.tmp 71) 29 52 i0 _ 72 Try.underlying29 hi0 hz0 hz1 hz2 rfl rfl (w65) w5.heap.size _ A65 u c65 ((ps.map Pg.raw).take u) ⟨_, 0, none⟩ (fr s i).raw rfl (HO65.out) rfl (HLIT.out) (by omega) (by decide) (HB65.out).size ?_
                     intro A72 c72 w72 ho72 hg72
                     have HO72 := Lib.hid ho72
                     have HB72 := Lib.hid ((HB65.out).trans (hg72.below (HO65.out).2 (HB65.out).size))
                     have S65 := (fun (h : _ ∧ _ ∧ _) => And.intro h.1 h.2.1) (cel3 (HCR.out.below HB72.out (Nat.le_refl _)))
                     clear ho72 hg72)
                  | (refine step_append_k (κ := rκ) rfl (.tmp 65) (.tmp 71) 29 52 i0 _ 72 Try.underlying29 hi0 hz0 hz1 hz2 rfl rfl (w65.alloc (.cells #[.string s, .int .i64 i, .slice none 0 0, .slice none 0 0] 52)) w5.heap.size _ A65 u c65 ((ps.map Pg.raw).take u) ⟨w65.heap.size, 0, none⟩ (fr s i).raw rfl (OwnK.alloc HO65.out _) rfl (lit_row w65 s i) (by omega) (by decide) (bel_alloc HB65.out _).size ?_
                     intro A72 c72 w72 ho72 hg72
                     have HO72 := Lib.hid ho72
                     have HB72 := Lib.hid ((bel_alloc HB65.out _).trans (hg72.below (OwnK.alloc HO65.out _).2 (bel_alloc HB65.out _).size))
                     have S65 := (fun (h : _ ∧ _ ∧ _) => And.intro h.1 h.2.1) (cel3 (HCR.out.below HB72.out (Nat.le_refl _)))
                     clear ho72 hg72))
                all_goals
                  have HR2 := Lib.hid (RowS.mono (RowS.below (KRow.slice HOR.out.row (by decide) (i := u) (m := j - u) (by omega)) HB72.out (Nat.le_refl _)) HB72.out.size)
                  have HOZ := Lib.hid (OwnK.len HOR.out)
                  clear S65 HR1 HX0 HX1 HX2 HX3 HN1 HN2 HN3 HL2 HL3 HE2 HE3 d0 d1 d2
                  have hju : ((j : Int) - (u : Int)).toNat = j - u := by omega
                  have hcu : ((c4 : Int) - (u : Int)).toNat = c4 - u := by omega
                  by_cases huc : u = c4
                  · subst huc
                    go_wp2_with (at_builtin; refine append_kd (κ := rκ) rfl (.tmp 73) (.tmp 76) 29 52 i0 _ 72 Try.underlying29 hi0 hz0 hz1 hz2 rfl rfl w72 w5.heap.size 0 A72 (u + 1) c72 ((ps.map Pg.raw).take u ++ [(fr s i).raw]) (some ⟨g, 0, none⟩) 0 0 [] rfl HO72.out rfl (fun h => by cases h) (KRow.nil _ _ _) (by omega) (by omega) (by decide) HB72.out.size ?_; intro A77 c77 w77 ho77 hg77 _; have HO77 := Lib.hid ho77; have HB77 := Lib.hid (HB72.out.trans (hg77.below HO72.out.2 HB72.out.size)); clear ho77 hg77)
                    go_meet
                    rw [List.append_nil] at HO77
                    obtain ⟨g7, rfl, hg7⟩ : ∃ g7, A77 = some ⟨g7, 0, none⟩ ∧ w5.heap.size ≤ g7 := by
                      rcases OwnK.form HO77.out with ⟨_, h⟩ | h
                      · omega
                      · exact h
                    refine ⟨g7, _, c77, _, u, rfl, rfl, HNEW.out, by omega, Nat.le_trans HWB.out hg7, ?_, HBW.out.trans (HB77.out.mono HBW.out.size), HCR.out.below HB77.out (Nat.le_refl _)⟩
                    rw [List.map_append, List.map_cons, List.map_take, List.map_drop, List.drop_of_length_le (by have := HOZ.out; omega)]
                    exact OwnK.lower HO77.out HWB.out
                  · have HR3 : Hid (KRow rκ w72 w72.heap.size (some ⟨g, u * 4, none⟩) (j - u) ((ps.map Pg.raw).drop u)) := Lib.hid (by
                      have h := HR2.out
                      rw [List.take_of_length_le (by rw [List.length_drop]; have := HOZ.out; omega), Nat.zero_add] at h
                      exact h)
                    clear HR2
                    go_wp2_with (at_builtin; refine append_kd (κ := rκ) rfl (.tmp 73) (.tmp 76) 29 52 i0 _ 72 Try.underlying29 hi0 hz0 hz1 hz2 rfl rfl w72 w5.heap.size w72.heap.size A72 (u + 1) c72 ((ps.map Pg.raw).take u ++ [(fr s i).raw]) (some ⟨g, u * 4, none⟩) (j - u) (c4 - u) ((ps.map Pg.raw).drop u) rfl HO72.out rfl (fun h => by cases h) HR3.out (by omega) (by omega) (by decide) HB72.out.size ?_; intro A77 c77 w77 ho77 hg77 _; have HO77 := Lib.hid ho77; have HB77 := Lib.hid (HB72.out.trans (hg77.below HO72.out.2 HB72.out.size)); clear ho77 hg77)
                    go_meet
                    obtain ⟨g7, rfl, hg7⟩ : ∃ g7, A77 = some ⟨g7, 0, none⟩ ∧ w5.heap.size ≤ g7 := by
                      rcases OwnK.form HO77.out with ⟨_, h⟩ | h
                      · omega
                      · exact h
                    refine ⟨g7, _, c77, _, u, rfl, rfl, HNEW.out, by omega, Nat.le_trans HWB.out hg7, ?_, HBW.out.trans (HB77.out.mono HBW.out.size), HCR.out.below HB77.out (Nat.le_refl _)⟩
                    rw [List.map_append, List.map_cons, List.map_take, List.map_drop]
                    have h7 := OwnK.lower HO77.out HWB.out
                    rw [List.append_assoc, List.singleton_append] at h7
                    exact h7
          · have h44 : ¬ (t : Int) < 0 := by omega
            obtain ⟨g, rfl, hgb⟩ : ∃ g, A4 = some ⟨g, 0, none⟩ ∧ w2.heap.size ≤ g := by
              rcases OwnK.form HOR.out with ⟨_, h⟩ | h
              · have := HL.out
                omega
              · exact h
            go_wp2
            go_meet
            exact ⟨g, _, _, ps, t, rfl, rfl, AtP.found HA.out (by have := HL.out; omega) hw, by omega, hgb, HOR.out, HBW.out, HCR.out⟩
        case rest =>
          obtain ⟨g, m, c9, qs, t, rfl, rfl, hap, hm, hgb, ho, hb, hc⟩ := hcut
          clear HOR HAT HBW HCR hnn4
          have hlen := OwnK.len ho
          rw [List.length_map] at hlen
          have HAP := Lib.hid hap
          have HOC := Lib.hid ho
          have HBC := Lib.hid hb
          have HCC := Lib.hid hc
          have htl := hap.lt
          have ht0 : (0 : Int) ≤ (t : Int) := by omega
          have htI : (t : Int) < (m : Int) := by omega
          obtain ⟨d0, d1, d2⟩ := cel3 hc
          obtain ⟨k0, k1, k2, k3⟩ := rw_cells ho.row (j := t) (by rw [List.length_map]; exact htl)
          rw [List.getElem_map, Nat.zero_add] at k0 k1 k2 k3
          have hge : qs[t]! = qs[t] := getElem!_pos qs t htl
          rw [← hge] at k0 k1 k2 k3
          have f0 := own1_frozen ho.2 (t * 4)
          have f1 := own1_frozen ho.2 (t * 4 + 1)
          have f2 := own1_frozen ho.2 (t * 4 + 2)
          have f3 := own1_frozen ho.2 (t * 4 + 3)
          clear hap ho hb hc hge
          obtain ⟨qt, hqt⟩ : ∃ qt, qs[t]! = qt := ⟨_, rfl⟩
          rw [hqt] at k0 k1 k2 k3
          have HQT := Lib.hid hqt
          clear hqt
          obtain ⟨bp, hbp⟩ : ∃ bp : Pg, bp = (if qt.inc < i then fr s i else qt) := ⟨_, rfl⟩
          have HBP := Lib.hid hbp
          clear hbp
          change wc.cell? ⟨g, t * 4, none⟩ = some (.string qt.wkr) at k0
          change wc.cell? ⟨g, t * 4 + 1, none⟩ = some (.int .i64 qt.inc) at k1
          change wc.cell? ⟨g, t * 4 + 2, none⟩ = some (.slice qt.ka qt.keys.length qt.kc) at k2
          change wc.cell? ⟨g, t * 4 + 3, none⟩ = some (.slice qt.ra qt.rows.length qt.rc) at k3
          go_upto_region 18 with (fail)
          go_quiet (fail)
          go_upto_if 86 with (fail)
          generalize wc = w6 at *
          go_cut [] from 87 to 95 (fun wx => OwnK rκ wx w2.heap.size 52 (some ⟨g, 0, none⟩) m c9 ((qs.map Pg.raw).set t bp.raw) ∧ Below w.heap.size w wx ∧ Cel wx w.heap.size [.string s, .int .i64 i, .int .i64 k])
          case first =>
            by_cases hin : qt.inc < i
            · have e : bp = fr s i := HBP.out.trans (if_pos hin)
              go_wp2
              go_meet
              have hdr : Below w6.heap.size w6 (w6.drewN nq) := below_drewN (Below.refl _ _) _
              have K4 := ((((Kp.of_below (fun i => i = g) hdr (Nat.le_refl _)).trans (kp_setCell _ g (t * 4) (.string s))).trans (kp_setCell _ g (t * 4 + 1) (.int .i64 i))).trans (kp_setCell _ g (t * 4 + 2) (.slice none 0 0))).trans (kp_setCell _ g (t * 4 + 3) (.slice none 0 0))
              refine ⟨?_, HBC.out.trans (kp_bel K4 HBC.out.size (by omega)), K4.cel HCC.out (by omega)⟩
              rw [e]
              exact own_setP (HOC.out.below hdr (Nat.le_refl _)) (by rw [List.length_map]; exact htl) (fr s i).raw
            · have e : bp = qt := HBP.out.trans (if_neg hin)
              go_wp2
              go_meet
              have hdr : Below w6.heap.size w6 (w6.drewN nq) := below_drewN (Below.refl _ _) _
              refine ⟨?_, HBC.out.trans (hdr.mono HBC.out.size), HCC.out.below hdr (Nat.le_refl _)⟩
              have e2 : (qs.map Pg.raw).set t bp.raw = qs.map Pg.raw := by
                rw [e, ← HQT.out, getElem!_pos qs t htl, ← List.getElem_map Pg.raw (h := by rw [List.length_map]; exact htl)]
                exact List.set_getElem_self _
              rw [e2]
              exact HOC.out.below hdr (Nat.le_refl _)
          case rest =>
            obtain ⟨ho, hb, hc⟩ := hcut
            clear k0 k1 k2 k3 f0 f1 f2 f3 d0 d1 d2 HOC HBC HCC
            have HPG := Lib.hid (base_pg HD.out HF.out hs HAP.out HQT.out HBP.out)
            have hfew := (HPG.out _ hb).2.2.1
            obtain ⟨hl2, hl3, he3⟩ := raw_set (y := bp.raw) htl
            have HOC := Lib.hid ho
            have HBC := Lib.hid hb
            have HCC := Lib.hid hc
            obtain ⟨d0, d1, d2⟩ := cel3 hc
            obtain ⟨k0, k1, k2, k3⟩ := rw_cells ho.row hl3
            rw [he3, Nat.zero_add] at k0 k1 k2 k3
            have f2 := own1_frozen ho.2 (t * 4 + 2)
            have hgl : g < wc.heap.size := (OwnK.block ho rfl).2
            clear ho hb hc he3 k0 k1 k3
            change wc.cell? ⟨g, t * 4 + 2, none⟩ = some (.slice bp.ka bp.keys.length bp.kc) at k2
            generalize wc = w7 at *
            have HINT := Lib.hid (fun (W : World) (hW : Below w7.heap.size w7 W) => refints_any bp.ka bp.keys.length bp.kc bp.keys W (HPG.out W (HBC.out.trans (hW.mono HBC.out.size))).1.kp (HPG.out W (HBC.out.trans (hW.mono HBC.out.size))).1.keys (by omega))
            obtain ⟨i1, hi1, hy0, hy1, hy2⟩ := info_parts info_int
            go_upto_region 20 with (fail)
            go_cut [] from 95 to 109 (fun wx => ∃ A' c', OwnK iκ wx w7.heap.size 3 A' (bp.keys.length + 1) c' (bp.keys ++ [k]) ∧ OwnK rκ wx w2.heap.size 52 (some ⟨g, 0, none⟩) m c9 (setK t A' (bp.keys.length + 1) c' ((qs.map Pg.raw).set t bp.raw)) ∧ Below w.heap.size w wx ∧ Cel wx w.heap.size [.string s, .int .i64 i, .int .i64 k] ∧ w7.heap.size ≤ wx.heap.size)
            case first =>
              have HD0 : Hid (Below w7.heap.size w7 w7.drew) := Lib.hid (Below.refl _ _).drew
              have HD1 : Hid (Below w7.heap.size w7 (w7.alloc (.cells #[.int .i64 k] 3)).drew) := Lib.hid (bel_alloc (Below.refl _ _) _).drew
              have K2 := Lib.hid k2
              have F2 := Lib.hid f2
              have D2 := Lib.hid d2
              have hwl : w.heap.size < w7.heap.size := HCC.out.lt
              go_region_law (first
                | (refine step_append_k (κ := iκ) rfl (.tmp 102) (.tmp 105) 48 3 i1 _ 8 Try.underlying48 hi1 hy0 hy1 hy2 rfl rfl _ w7.heap.size _ AI bp.keys.length cI bp.keys ⟨_, 0, none⟩ k rfl HOI.out rfl HLI.out (by omega) (by decide) HBI.out.size ?_
                   intro A' c' w' ho' hg'
                   have HOJ := Lib.hid ho'
                   have HBJ := Lib.hid (HBI.out.trans (hg'.below HOI.out.2 HBI.out.size))
                   have k2 := (HBJ.out.cell (p := ⟨g, t * 4 + 2, none⟩) hgl).trans K2.out
                   have f2 := (HBJ.out.frozen (p := ⟨g, t * 4 + 2, none⟩) hgl).trans F2.out
                   clear ho' hg')
                | (go_simp; go_at_call 27; first
                   | ((with_reducible refine (HINT.out _ HD0.out).mono ?_)
                      rintro e wI ⟨AI, cI, rfl, hoI, hbI⟩
                      have HBx := Lib.hid (HD0.out.trans (hbI.mono HD0.out.size))
                      have hal : Below wI.heap.size wI (wI.alloc (.cells #[.int .i64 k] 3)) := (Below.refl _ _).alloc (Nat.le_refl _) _
                      have HBI := Lib.hid (bel_alloc HBx.out (.cells #[.int .i64 k] 3))
                      have HOI := Lib.hid (OwnK.alloc (OwnK.lower hoI HD0.out.size) (.cells #[.int .i64 k] 3))
                      have HLI := Lib.hid (KRow.lit (κ := iκ) wI 3 [k] #[.int .i64 k] rfl)
                      have k2 := (HBx.out.cell (p := ⟨g, t * 4 + 2, none⟩) hgl).trans K2.out
                      have f2 := (HBx.out.frozen (p := ⟨g, t * 4 + 2, none⟩) hgl).trans F2.out
                      have d2 := (HBx.out.cell (p := ⟨w.heap.size, 2, none⟩) hwl).trans D2.out
                      clear hoI hbI hal)
                   | ((with_reducible refine (HINT.out _ HD1.out).mono ?_)
                      rintro e wI ⟨AI, cI, rfl, hoI, hbI⟩
                      have HBI := Lib.hid (HD1.out.trans (hbI.mono HD1.out.size))
                      have HOI := Lib.hid (OwnK.lower hoI HD1.out.size)
                      have HLI := Lib.hid (KRow.below (KRow.below (KRow.lit (κ := iκ) w7 3 [k] #[.int .i64 k] rfl) (Below.refl (w7.alloc (.cells #[.int .i64 k] 3)).heap.size _).drew (by simp)) hbI (by simp))
                      have k2 := (HBI.out.cell (p := ⟨g, t * 4 + 2, none⟩) hgl).trans K2.out
                      have f2 := (HBI.out.frozen (p := ⟨g, t * 4 + 2, none⟩) hgl).trans F2.out
                      have d2 := (HBI.out.cell (p := ⟨w.heap.size, 2, none⟩) hwl).trans D2.out
                      clear hoI hbI)))
              all_goals
                go_wp2
                go_meet
                have hgA : ∀ a, A' = some a → some g ≠ some a.block := fun a ha e => by
                  have h1 := (HOJ.out.block ha).1
                  have h2 := Option.some.inj e
                  omega
                exact ⟨A', c', HOJ.out.kept (grown_setCell _ _ _) hgA, own_setK (HOC.out.below HBJ.out (Nat.le_refl _)) hl3 A' _ _, HBC.out.trans ((HBJ.out.mono HBC.out.size).setCell (p := ⟨g, t * 4 + 2, none⟩) (by show w.heap.size ≤ g; omega) _), (kp_setCell _ _ _ _).cel (HCC.out.below HBJ.out (Nat.le_refl _)) (by omega), by have := HBJ.out.size; simpa using this⟩
            case rest =>
              obtain ⟨AK, cK, hoK, ho, hb, hc, hsz⟩ := hcut
              clear k2 f2 d0 d1 d2 HINT HOC HBC HCC
              rw [setK_set (by rw [List.length_map]; exact htl)] at ho
              obtain ⟨hl2', hl3', he3⟩ := raw_set (y := ⟨bp.raw.wkr, bp.raw.inc, AK, bp.keys.length + 1, cK, bp.raw.ra, bp.raw.rn, bp.raw.rc⟩) htl
              have HOK := Lib.hid hoK
              have HOC := Lib.hid ho
              have HBC := Lib.hid hb
              have HCC := Lib.hid hc
              obtain ⟨k0, k1, k2, k3⟩ := rw_cells ho.row hl3'
              rw [he3, Nat.zero_add] at k0 k1 k2 k3
              have f3 := own1_frozen ho.2 (t * 4 + 3)
              have hg7 := hgl
              replace hgl : g < wc.heap.size := (OwnK.block ho rfl).2
              clear ho hb hc hoK he3 k0 k1 k2
              change wc.cell? ⟨g, t * 4 + 3, none⟩ = some (.slice bp.ra bp.rows.length bp.rc) at k3
              generalize wc = w8 at *
              have HCH := Lib.hid (fun (W : World) (hW : Below w8.heap.size w8 W) => refchunks_any bp.ra bp.rows.length bp.rc bp.rows W (HPG.out W (HBC.out.trans (hW.mono HBC.out.size))).1.rp (HPG.out W (HBC.out.trans (hW.mono HBC.out.size))).1.rows (by have := (HPG.out W (HBC.out.trans (hW.mono HBC.out.size))).2.1; omega))
              have HBY := Lib.hid (fun (W : World) (hW : Below w8.heap.size w8 W) => refbytes_any B rn rc rep W (RowS.mono (RowS.below HRP.out (HBC.out.trans (hW.mono HBC.out.size)) (Nat.le_refl _)) (HBC.out.trans (hW.mono HBC.out.size)).size) (by omega))
              have HRL := Lib.hid (HPG.out _ HBC.out).2.1
              have hrl4 : bp.rows.length ≤ 4 := by have := HRL.out; omega
              obtain ⟨i2, hi2, hx0, hx1, hx2⟩ := info_parts info_sl
              go_upto_region 21 with (fail)
              go_cut [] from 109 to 123 (fun wx => ∃ A' c' rp, rp.l = rep ∧ RpIn wx rp ∧ (∀ a, rp.a = some a → w8.heap.size ≤ a.block) ∧ OwnK pκ wx w8.heap.size 32 A' (bp.rows.length + 1) c' (bp.rows ++ [rp]) ∧ OwnK iκ wx w7.heap.size 3 AK (bp.keys.length + 1) cK (bp.keys ++ [k]) ∧ OwnK rκ wx w2.heap.size 52 (some ⟨g, 0, none⟩) m c9 ((qs.map Pg.raw).set t ⟨bp.wkr, bp.inc, AK, bp.keys.length + 1, cK, A', bp.rows.length + 1, c'⟩) ∧ Below w.heap.size w wx)
              case first =>
                have HD0 : Hid (Below w8.heap.size w8 w8) := Lib.hid (Below.refl _ _)
                have K3 := Lib.hid k3
                have F3 := Lib.hid f3
                go_wp2_with fail
                (with_reducible refine (HCH.out _ HD0.out).mono ?_)
                rintro e wC ⟨AC, cC, rfl, hoC, hbC⟩
                have HBc := Lib.hid (HD0.out.trans (hbC.mono HD0.out.size))
                have HOc := Lib.hid (OwnK.lower hoC HD0.out.size)
                clear hoC hbC
                go_wp2_with fail
                (with_reducible refine (HBY.out _ HBc.out).mono ?_)
                rintro e wB ⟨AB, cB, rfl, hoB, hbB⟩
                have HBb := Lib.hid (HBc.out.trans (hbB.mono HBc.out.size))
                have HRB := Lib.hid (rp_new hoB hn HBc.out.size)
                have HOI := Lib.hid (OwnK.alloc (OwnK.below HOc.out hbB (Nat.le_refl _)) (.cells #[.slice AB rn cB] 32))
                have HLI := Lib.hid (KRow.lit (κ := pκ) wB 32 [⟨AB, rn, cB, rep⟩] #[.slice AB rn cB] rfl)
                have HBI := Lib.hid (bel_alloc HBb.out (.cells #[.slice AB rn cB] 32))
                have HRI := Lib.hid (rp_below HRB.out ((Below.refl wB.heap.size wB).alloc (Nat.le_refl _) (.cells #[.slice AB rn cB] 32)))
                clear hoB hbB k3 f3
                go_wp2_with (at_builtin; refine append_k (κ := pκ) rfl (.tmp 116) (.tmp 119) 49 32 i2 _ 24 Try.underlying49 hi2 hx0 hx1 hx2 rfl rfl _ w8.heap.size _ AC bp.rows.length cC bp.rows ⟨_, 0, none⟩ ⟨AB, rn, cB, rep⟩ rfl HOI.out rfl HLI.out (by omega) (by decide) HBI.out.size ?_; intro A' c' w' ho' hg'; have HOJ := Lib.hid ho'; have HBJ := Lib.hid (HBI.out.trans (hg'.below HOI.out.2 HBI.out.size)); have HRJ := Lib.hid (rp_grew HRI.out hg' HOI.out); have k3 := (HBJ.out.cell (p := ⟨g, t * 4 + 3, none⟩) hgl).trans K3.out; have f3 := (HBJ.out.frozen (p := ⟨g, t * 4 + 3, none⟩) hgl).trans F3.out; clear ho' hg')
                go_meet
                have hgA : ∀ a, A' = some a → some g ≠ some a.block := fun a ha e => by
                  have h1 := (HOJ.out.block ha).1
                  have h2 := Option.some.inj e
                  omega
                have hgK : ∀ a, AK = some a → some g ≠ some a.block := fun a ha e => by
                  have h1 := (HOK.out.block ha).1
                  have h2 := Option.some.inj e
                  omega
                have hgR : ∀ a, AB = some a → w8.heap.size ≤ a.block := (rp_of_own HRJ.out.1 (Nat.le_trans hn (by decide))).2
                have hR := (kp_setCell w' g (t * 4 + 3) (.slice A' (bp.rows.length + 1) c')).rpIn (rp_of_own HRJ.out.1 (Nat.le_trans hn (by decide))).1 (fun _ a ha e => by
                  have h1 := hgR a ha
                  omega)
                have hO := own_setR (HOC.out.below HBJ.out (Nat.le_refl _)) hl3' A' (bp.rows.length + 1) c'
                rw [setR_set (by rw [List.length_map]; exact htl)] at hO
                exact ⟨A', c', ⟨AB, rn, cB, rep⟩, rfl, hR, hgR, HOJ.out.kept (grown_setCell _ _ _) hgA, (HOK.out.below HBJ.out (Nat.le_refl _)).kept (grown_setCell _ _ _) hgK, hO, HBC.out.trans ((HBJ.out.mono HBC.out.size).setCell (p := ⟨g, t * 4 + 3, none⟩) (by show w.heap.size ≤ g; omega) _)⟩
              case rest =>
                obtain ⟨A', c', rp, hrp, hri, hrb, hor, hok, ho, hb⟩ := hcut
                clear k3 f3 HCH HBY HOK HOC HBC HCC HRP
                have HOR := Lib.hid hor
                have HOK := Lib.hid hok
                have HOC := Lib.hid ho
                have HBC := Lib.hid hb
                have HRI := Lib.hid (And.intro hrp (And.intro hri hrb))
                have HBI := Lib.hid (base_inc HA.out HR0.out HAP.out HQT.out HBP.out)
                obtain ⟨hl2'', hl3'', he3⟩ := raw_set (y := ⟨bp.wkr, bp.inc, AK, bp.keys.length + 1, cK, A', bp.rows.length + 1, c'⟩) htl
                obtain ⟨k0, k1, k2, k3⟩ := rw_cells ho.row hl3''
                rw [he3, Nat.zero_add] at k2 k3
                have f2 := own1_frozen ho.2 (t * 4 + 2)
                have f3 := own1_frozen ho.2 (t * 4 + 3)
                have c0 := (HD.out.below hb).cel.cell 0 _ rfl
                have e0 := (HD.out.below hb).cel.froz 0 (by simp)
                have hxl := (HD.out.below hb).cel.lt
                have hxw := HD.out.cel.lt
                clear hrp hri hrb hor hok ho hb he3 k0 k1
                change wc.cell? ⟨g, t * 4 + 2, none⟩ = some (.slice AK (bp.keys.length + 1) cK) at k2
                change wc.cell? ⟨g, t * 4 + 3, none⟩ = some (.slice A' (bp.rows.length + 1) c') at k3
                generalize wc = w9 at *
                by_cases h5 : bp.keys.length = 4
                · have hI4 : (4 : Int) < ((bp.keys.length + 1 : Nat) : Int) := by omega
                  have hI5 : (4 : Int) < (bp.keys.length : Int) + 1 := by omega
                  obtain ⟨gk, rfl, hgk⟩ : ∃ gk, AK = some ⟨gk, 0, none⟩ ∧ w7.heap.size ≤ gk := by
                    rcases OwnK.form HOK.out with ⟨_, h⟩ | h
                    · omega
                    · exact h
                  obtain ⟨gr, rfl, hgr⟩ : ∃ gr, A' = some ⟨gr, 0, none⟩ ∧ w8.heap.size ≤ gr := by
                    rcases OwnK.form HOR.out with ⟨_, h⟩ | h
                    · omega
                    · exact h
                  have hcK := (OwnK.caps HOK.out).1
                  have hcR := (OwnK.caps HOR.out).1
                  have hr5 : bp.rows.length = 4 := by have := HRL.out; omega
                  rw [h5] at k2 hcK
                  rw [hr5] at k3 hcR
                  have hn1 : ¬ cK = 1 := by omega
                  have hn2 : ¬ c' = 1 := by omega
                  have hq1 : (1 : Int) ≤ (cK : Int) := by omega
                  have hq2 : (1 : Int) ≤ (c' : Int) := by omega
                  have hq3 : (5 : Int) ≤ (cK : Int) := by omega
                  have hq4 : (5 : Int) ≤ (c' : Int) := by omega
                  have hq5 : ((cK : Int) - 1).toNat = cK - 1 := by omega
                  have hq6 : ((c' : Int) - 1).toNat = c' - 1 := by omega
                  go_wp2
                  go_ret
                  have hkl : (bp.keys ++ [k]).length = 5 := by rw [List.length_append, h5]; rfl
                  have hrl : (bp.rows ++ [rp]).length = 5 := by rw [List.length_append, hr5]; rfl
                  obtain ⟨hinc, hbk, hbr⟩ := HBI.out
                  have hpg := HPG.out _ HBC.out
                  have hp0 := HPG.out _ (Below.refl _ _)
                  have K2 := (kp_setCell w9 g (t * 4 + 2) (.slice (some ⟨gk, 1, none⟩) 4 (cK - 1))).trans (kp_setCell _ g (t * 4 + 3) (.slice (some ⟨gr, 1, none⟩) 4 (c' - 1)))
                  have hOK := (HOK.out.kept (grown_setCell w9 ⟨g, t * 4 + 2, none⟩ (.slice (some ⟨gk, 1, none⟩) 4 (cK - 1))) (fun a ha e => by cases ha; have e := Option.some.inj e; have e : g = gk := e; omega)).kept (grown_setCell _ ⟨g, t * 4 + 3, none⟩ (.slice (some ⟨gr, 1, none⟩) 4 (c' - 1))) (fun a ha e => by cases ha; have e := Option.some.inj e; have e : g = gk := e; omega)
                  have hOR := (HOR.out.kept (grown_setCell w9 ⟨g, t * 4 + 2, none⟩ (.slice (some ⟨gk, 1, none⟩) 4 (cK - 1))) (fun a ha e => by cases ha; have e := Option.some.inj e; have e : g = gr := e; omega)).kept (grown_setCell _ ⟨g, t * 4 + 3, none⟩ (.slice (some ⟨gr, 1, none⟩) 4 (c' - 1))) (fun a ha e => by cases ha; have e := Option.some.inj e; have e : g = gr := e; omega)
                  have hO1 := own_setK HOC.out hl3'' (some ⟨gk, 1, none⟩) 4 (cK - 1)
                  rw [setK_set (by rw [List.length_map]; exact htl)] at hO1
                  have hO2 := own_setR hO1 (by simpa using htl) (some ⟨gr, 1, none⟩) 4 (c' - 1)
                  rw [setR_set (by rw [List.length_map]; exact htl)] at hO2
                  refine dc_end (P := ⟨bp.wkr, bp.inc, some ⟨gk, 1, none⟩, cK - 1, (bp.keys ++ [k]).drop 1, some ⟨gr, 1, none⟩, c' - 1, (bp.rows ++ [rp]).drop 1⟩) HD.out hs HAP.out (HBC.out.trans (kp_bel K2 HBC.out.size (by omega))) ?_ (OwnK.caps HOC.out) hm (pg_a _ _ hOK hOR (fun r hr => ?_) (by omega) (by omega)) (by show ((bp.rows ++ [rp]).drop 1).length = ((bp.keys ++ [k]).drop 1).length; rw [List.length_drop, List.length_drop]; omega) hpg.2.2.2.1 (fun j hj => ?_) (by omega) ?_
                  · show KRow rκ _ _ (some ⟨g, 0, none⟩) m ((qs.map Pg.raw).set t ⟨bp.wkr, bp.inc, some ⟨gk, 1, none⟩, ((bp.keys ++ [k]).drop 1).length, cK - 1, some ⟨gr, 1, none⟩, ((bp.rows ++ [rp]).drop 1).length, c' - 1⟩)
                    rw [List.length_drop, List.length_drop, hkl, hrl]
                    exact hO2.row
                  · rcases List.mem_append.1 hr with hr | hr
                    · refine K2.rpIn (hpg.1.rep r hr) (fun h0 a ha e => ?_)
                      have := (hp0.1.rep r hr).lt h0 a ha
                      omega
                    · rw [List.mem_singleton] at hr
                      rw [hr]
                      refine K2.rpIn HRI.out.2.1 (fun h0 a ha e => ?_)
                      have := HRI.out.2.2 a ha
                      omega
                  · rcases hj with (⟨a, ha, rfl⟩ | ⟨a, ha, rfl⟩) | ⟨r, hr, h0r, a, ha, rfl⟩
                    · cases ha
                      exact .inr (show w.heap.size ≤ gk by omega)
                    · cases ha
                      exact .inr (show w.heap.size ≤ gr by omega)
                    · rcases List.mem_append.1 (List.mem_of_mem_drop hr) with hr | hr
                      · rcases hpg.2.2.2.2 with ⟨_, _, h0⟩ | h0
                        · rw [h0] at hr
                          cases hr
                        · exact .inl (.inr ⟨bp, h0, .inr ⟨r, hr, h0r, a, ha, rfl⟩⟩)
                      · rw [List.mem_singleton] at hr
                        subst hr
                        have := HRI.out.2.2 a ha
                        exact .inr (by omega)
                  · show Ab.mk bp.wkr bp.inc ((bp.keys ++ [k]).drop 1) (((bp.rows ++ [rp]).drop 1).map Part.l) = _
                    rw [hbk, hbr, hinc, hpg.2.2.2.1, List.map_drop, List.map_append, List.map_cons, List.map_nil, HRI.out.1]
                    unfold pushed
                    rw [show bp.keys.length + 1 - 4 = 1 by omega, show (bp.rows.map Part.l).length + 1 - 4 = 1 by rw [List.length_map]; omega]
                · have hI4 : ¬ (4 : Int) < ((bp.keys.length + 1 : Nat) : Int) := by omega
                  have hI5 : ¬ (4 : Int) < (bp.keys.length : Int) + 1 := by omega
                  go_wp2
                  go_ret
                  have hkl : (bp.keys ++ [k]).length = bp.keys.length + 1 := by simp
                  have hrl : (bp.rows ++ [rp]).length = bp.rows.length + 1 := by simp
                  obtain ⟨hinc, hbk, hbr⟩ := HBI.out
                  have hpg := HPG.out _ HBC.out
                  refine dc_end (P := ⟨bp.wkr, bp.inc, AK, cK, bp.keys ++ [k], A', c', bp.rows ++ [rp]⟩) HD.out hs HAP.out HBC.out ?_ (OwnK.caps HOC.out) hm (pg_b _ _ (by rw [hkl]; exact HOK.out) (by rw [hrl]; exact HOR.out) (fun r hr => ?_) (by omega)) (by show (bp.rows ++ [rp]).length = (bp.keys ++ [k]).length; have := HRL.out; omega) hpg.2.2.2.1 (fun j hj => ?_) (by omega) ?_
                  · show KRow rκ w9 w9.heap.size (some ⟨g, 0, none⟩) m ((qs.map Pg.raw).set t ⟨bp.wkr, bp.inc, AK, (bp.keys ++ [k]).length, cK, A', (bp.rows ++ [rp]).length, c'⟩)
                    rw [hkl, hrl]
                    exact HOC.out.row
                  · rcases List.mem_append.1 hr with hr | hr
                    · exact hpg.1.rep r hr
                    · rw [List.mem_singleton] at hr
                      rw [hr]
                      exact HRI.out.2.1
                  · rcases hj with (⟨a, ha, rfl⟩ | ⟨a, ha, rfl⟩) | ⟨r, hr, h0r, a, ha, rfl⟩
                    · have := (HOK.out.block ha).1
                      exact .inr (by omega)
                    · have := (HOR.out.block ha).1
                      exact .inr (by omega)
                    · rcases List.mem_append.1 hr with hr | hr
                      · rcases hpg.2.2.2.2 with ⟨_, _, h0⟩ | h0
                        · rw [h0] at hr
                          cases hr
                        · exact .inl (.inr ⟨bp, h0, .inr ⟨r, hr, h0r, a, ha, rfl⟩⟩)
                      · rw [List.mem_singleton] at hr
                        subst hr
                        have := HRI.out.2.2 a ha
                        exact .inr (by omega)
                  · show Ab.mk bp.wkr bp.inc (bp.keys ++ [k]) ((bp.rows ++ [rp]).map Part.l) = _
                    rw [hbk, hbr, hinc, hpg.2.2.2.1, List.map_append, List.map_cons, List.map_nil, HRI.out.1]
                    unfold pushed
                    rw [show bp.keys.length + 1 - 4 = 0 by omega, show (bp.rows.map Part.l).length + 1 - 4 = 0 by rw [List.length_map]; have := HRL.out; omega]
                    rfl
  · rw [if_neg hz, decide_eq_false hz]
    have hz2 : (r1 == 0) = false := by simpa using hz
    clear hz hd ha hf hr hr0 hb1 hc1
    go_enter Try.func13, Try.ntmps13
    go_wp2_with fail
    generalize w.alloc _ = w1 at *
    (with_reducible refine HLK.out.mono ?_)
    rintro e w2 ⟨A2, n2, c2, rfl, _, _, hb2⟩
    have HB2 := Lib.hid (HB1.out.trans (hb2.mono HB1.out.size))
    clear d0 d1 d2 hb2
    go_wp2
    go_ret
    exact ⟨rfl, A, n, c, ps, HD.out.below HB2.out, rfl, Kp.of_below _ HB2.out (Nat.le_refl _), fun j hj => .inl hj⟩
end Ag
end Go.Proofs.Ytfpennnbicclfaa
