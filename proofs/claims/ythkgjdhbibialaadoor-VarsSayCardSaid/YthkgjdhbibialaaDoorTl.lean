/- A byte slice in memory of one's own, from anywhere in its block on: what is taken off its front, what is appended to it. -/
import Derived.Test.YthkgjdhbibialaaDoorApp
import Derived.Deep.AppendSrc
import Derived.Deep.Upon
namespace Go.Proofs.YthkgjdhbibialaaDoor
open Go.RowKit

def OwnTail (w : World) (base : Nat) (e : TypeId) (A : Option Addr) (n c : Nat) (l : List UInt8) : Prop :=
  l.length = n ∧ ((A = none ∧ n = 0 ∧ c = 0) ∨
    ∃ g off cur, A = some ⟨g, off, none⟩ ∧ base ≤ g ∧ w.heap[g]? = some (.cells cur e (0, 0)) ∧ n ≤ c ∧ off + c ≤ cur.size ∧ c ≤ maxLen ∧ (cur.toList.drop off).take n = l.map bv)
/-- The block of a slice. -/
def blk (A : Option Addr) : Option Nat := A.map (·.block)
theorem blk_own (A : Option Addr) (n c : Nat) : (Value.slice A n c).ownBlock = blk A := by cases A <;> rfl

section
variable {w w' : World} {base : Nat} {e : TypeId} {A : Option Addr} {n c : Nat} {l : List UInt8}
theorem OwnTail.len (h : OwnTail w base e A n c l) : l.length = n := h.1
theorem OwnTail.nil (w : World) (base : Nat) (e : TypeId) : OwnTail w base e none 0 0 [] := ⟨rfl, .inl ⟨rfl, rfl, rfl⟩⟩
theorem OwnTail.nn (h : OwnTail w base e A n c l) (hA : A = none) : n = 0 ∧ c = 0 := by
  rcases h.2 with ⟨_, h1, h2⟩ | ⟨g, off, cur, h1, _⟩
  · exact ⟨h1, h2⟩
  · rw [hA] at h1; cases h1
theorem OwnTail.cap (h : OwnTail w base e A n c l) : n ≤ c := by
  rcases h.2 with ⟨_, h1, h2⟩ | ⟨g, off, cur, _, _, _, h1, _⟩
  · omega
  · exact h1
theorem OwnTail.most (h : OwnTail w base e A n c l) : c ≤ maxLen := by
  rcases h.2 with ⟨_, h1, h2⟩ | ⟨g, off, cur, _, _, _, _, _, h1, _⟩
  · rw [h2]; exact Nat.zero_le _
  · exact h1
theorem OwnTail.lt (h : OwnTail w base e A n c l) : ∀ g, blk A = some g → base ≤ g ∧ g < w.heap.size := by
  intro g hg
  rcases h.2 with ⟨rfl, _⟩ | ⟨g', off, cur, rfl, hb, hh, _⟩
  · cases hg
  · obtain rfl := Option.some.inj hg
    refine ⟨hb, ?_⟩
    show g' < w.heap.size
    rcases Nat.lt_or_ge g' w.heap.size with h' | h'
    · exact h'
    · rw [Array.getElem?_eq_none h'] at hh; cases hh
theorem OwnTail.of_own (h : OwnBytes w base e A n c l) : OwnTail w base e A n c l := by
  refine ⟨h.len, ?_⟩
  rcases h.2 with ⟨hv, h0⟩ | ⟨g, cap, cur, hv, hb, hh, h1, h2, h3, h4⟩
  · injection hv with h1 h2 h3
    exact .inl ⟨h1, h2, h3⟩
  · injection hv with h5 h6 h7
    subst h7
    exact .inr ⟨g, 0, cur, h5, hb, hh, h1, by omega, h2, by simpa using h4⟩
theorem OwnTail.bytes (h : OwnTail w base e A n c l) : Bytes w w.heap.size A n l := by
  refine ⟨by simpa using h.1, fun hn => ?_⟩
  rcases h.2 with ⟨_, h0, _⟩ | ⟨g, off, cur, rfl, hb, hh, h1, h2, h3, h4⟩
  · omega
  · refine ⟨g, off, rfl, (h.lt g rfl).2, fun k v hv => ?_⟩
    have hc := cell_of_row w g (off + k) cur e (0, 0) hh
    rw [← h4, List.getElem?_take] at hv
    split at hv
    · rw [List.getElem?_drop] at hv
      exact hc.trans (by simpa using hv)
    · cases hv
theorem OwnTail.kept (h : OwnTail w base e A n c l) {row : Option Nat} (hg : w.grownBy w' row) (ha : ∀ g, blk A = some g → row ≠ some g) : OwnTail w' base e A n c l := by
  refine ⟨h.1, ?_⟩
  have hlt := h.lt
  rcases h.2 with h' | ⟨g, off, cur, rfl, hb, hh, hr⟩
  · exact .inl h'
  · exact .inr ⟨g, off, cur, rfl, hb, (hg.block g (hlt g rfl).2 (fun e => ha g rfl e.symm)).trans hh, hr⟩
theorem OwnTail.base_le (h : OwnTail w base e A n c l) {base' : Nat} (hb : base' ≤ base) : OwnTail w base' e A n c l := by
  refine ⟨h.1, ?_⟩
  rcases h.2 with h' | ⟨g, off, cur, h1, hbg, hr⟩
  · exact .inl h'
  · exact .inr ⟨g, off, cur, h1, by omega, hr⟩
/-- What is taken off the front. -/
theorem OwnTail.drop {g off : Nat} (h : OwnTail w base e (some ⟨g, off, none⟩) n c l) {k : Nat} (hk : k ≤ n) :
    OwnTail w base e (if c = k then some ⟨g, off, none⟩ else some ⟨g, off + k, none⟩) (n - k) (c - k) (l.drop k) := by
  refine ⟨by simp [h.1], ?_⟩
  rcases h.2 with ⟨h', _⟩ | ⟨g', off', cur, he, hb, hh, h1, h2, h3, h4⟩
  · cases h'
  · obtain ⟨rfl, rfl⟩ : g = g' ∧ off = off' := by injection he with he; injection he with h1 h2; exact ⟨h1, h2⟩
    by_cases hck : c = k
    · rw [if_pos hck]
      refine .inr ⟨g, off, cur, rfl, hb, hh, by omega, by omega, by omega, ?_⟩
      have : l.drop k = [] := List.drop_eq_nil_of_le (by rw [h.1]; omega)
      rw [this, show n - k = 0 from by omega]; rfl
    · rw [if_neg hck]
      refine .inr ⟨g, off + k, cur, rfl, hb, hh, by omega, by omega, by omega, ?_⟩
      rw [List.map_drop, ← h4, List.drop_take, List.drop_drop]
end

section
variable {P : Program}
/-- There is room: the cells behind. -/
theorem run_append_room_off (w : World) (t ty e : TypeId) (i : TypeInfo) (ht : P.underlying t = some (.slice e)) (hi : P.info? e = some i) (hs1 : i.size = 1)
    (g off sLen sCap : Nat) (cur : Array Value) (hg : w.heap[g]? = some (.cells cur e (0, 0)))
    (a : Addr) (m c : Nat) (news : List Value) (hl : news.length = m) (hnews : ∀ j u, news[j]? = some u → w.cell? (a.add j) = some u) (h1 : ∀ u ∈ news, u.oneCell' = true)
    (hroom : sLen + m ≤ sCap) (hfit : off + sLen + news.length ≤ cur.size) :
    (Builtin.append_ #[t, t] ty #[.slice (some ⟨g, off, none⟩) sLen sCap, .slice (some a) m c]).run P w =
      .ok (.slice (some ⟨g, off, none⟩) (sLen + m) sCap) (w.setRow g (cur.toList.take (off + sLen) ++ news ++ cur.toList.drop (off + sLen + news.length)).toArray) := by
  have hf := run_firstCells_some (P := P) w 1 m a m c news (by omega) hnews
  have hst := run_storeCells_at P g (off + sLen) e news 0 cur w hg (by simpa using hfit) h1
  simp only [Nat.add_zero] at hst
  simp [Builtin.append_, run_underlying ht, sizeOf, typeInfo, hi, hs1, Builtin.lenOf, hroom, hf, Addr.add_lit, hst]

theorem run_append_tail (w : World) (base : Nat) (t ty e : TypeId) (i : TypeInfo) (z : Value) (ht : P.underlying t = some (.slice e)) (hi : P.info? e = some i) (hz : i.zero = some z)
    (hsize : i.size = 1) (hby : i.bytes = 1) (hzs : z.cells.size = 1)
    (A : Option Addr) (n c : Nat) (l : List UInt8) (hown : OwnTail w base e A n c l)
    (B : Nat) (A' : Option Addr) (m c' : Nat) (l' : List UInt8) (hA : A' = none → m = 0 ∧ c' = 0) (hr : Bytes w B A' m l')
    (hmost : n + m ≤ 70368744177664) (hbase : base ≤ w.heap.size) :
    ∃ A2 c2 w', (Builtin.append_ #[t, t] ty #[.slice A n c, .slice A' m c']).run P w = .ok (.slice A2 (n + m) c2) w' ∧ OwnTail w' base e A2 (n + m) c2 (l ++ l') ∧ w.grownBy w' (blk A) ∧ (blk A2 = blk A ∨ blk A2 = some w.heap.size) := by
  have hl' := hr.len
  by_cases hm0 : m = 0
  · subst hm0
    obtain rfl : l' = [] := List.eq_nil_of_length_eq_zero hl'
    have hs : Src P i.size t (.slice A' 0 c') 0 [] w := by
      cases A' with
      | none =>
        obtain ⟨_, rfl⟩ := hA rfl
        exact Src.ofNil w ht 0
      | some a => exact Src.ofSlice w ht a 0 c' [] (by simp) (fun j u h => by simp at h) (fun u h => by cases h)
    refine ⟨A, c, w, ?_, by simpa using hown, World.grownBy.refl _ _, .inl rfl⟩
    exact run_append_nothing w t t ty e i ht hi A n c hown.cap _ hs
  · obtain ⟨b, boff, rfl, _, hc⟩ := hr.2 (by omega)
    have hnews : ∀ j u, (l'.map bv)[j]? = some u → w.cell? ((⟨b, boff, none⟩ : Addr).add j) = some u := fun j u h => (congrArg w.cell? (addr_add b boff j)).trans (hc j u h)
    rcases hown.2 with ⟨rfl, rfl, rfl⟩ | ⟨g, off, cur, rfl, hbg, hh, h1, h2, h3, h4⟩
    · obtain rfl : l = [] := List.eq_nil_of_length_eq_zero hown.1
      obtain ⟨v', w', hrun, ho, hg, _, hblk⟩ := run_append_own_at (P := P) w base t ty e i z 1 1 ht hi hz hsize hby hzs (by decide) (.slice none 0 0) 0 [] (World.ownsRow_nil _ _ _ _) ⟨b, boff, none⟩ m c' (l'.map bv) (by simpa using hl') hnews (bv_one l') (by unfold maxLen; omega) (by omega) hbase
      obtain ⟨A2, c2, rfl, _⟩ := own_form ho
      refine ⟨A2, c2, w', hrun, OwnTail.of_own (by simpa [OwnBytes] using ho), hg, ?_⟩
      rcases hblk with h5 | h5
      · left; rw [← blk_own A2 (0 + m) c2, h5]; rfl
      · right; rw [← blk_own A2 (0 + m) c2, h5]
    · by_cases hroom : n + m ≤ c
      · have hrun := run_append_room_off (P := P) w t ty e i ht hi hsize g off n c cur hh ⟨b, boff, none⟩ m c' (l'.map bv) (by simpa using hl') hnews (bv_one l') hroom (by simp; omega)
        refine ⟨_, c, _, hrun, ⟨by simp [hown.1, hl'], .inr ⟨g, off, _, rfl, hbg, setRow_heap w g cur _ e _ hh, hroom, ?_, h3, ?_⟩⟩, ⟨rfl, rfl, rfl, by simp, fun k _ hk => setRow_other w g k _ (fun e => hk (by simp [blk, e]))⟩, .inl rfl⟩
        · simp; omega
        · have hn : n ≤ (cur.toList.drop off).length := by simp; omega
          rw [List.map_append, ← h4]
          have e1 : ((cur.toList.take (off + n) ++ l'.map bv ++ cur.toList.drop (off + n + (l'.map bv).length)).toArray).toList.drop off = (cur.toList.drop off).take n ++ (l'.map bv ++ cur.toList.drop (off + n + (l'.map bv).length)) := by
            simp only [List.append_assoc]
            rw [List.drop_append_of_le_length (by simp; omega), List.drop_take, Nat.add_sub_cancel_left]
          rw [e1, List.take_append, List.take_take, Nat.min_eq_right (by omega), List.length_take, Nat.min_eq_left hn, Nat.add_sub_cancel_left]
          congr 1
          rw [List.take_append_of_le_length (by simp; omega), List.take_of_length_le (by simp; omega)]
      · have holds : ∀ j u, (l.map bv)[j]? = some u → w.cell? ((⟨g, off, none⟩ : Addr).add j) = some u := by
          intro j u hu
          have hb := hown.bytes
          rcases Nat.eq_zero_or_pos n with h0 | h0
          · have hn : l = [] := List.eq_nil_of_length_eq_zero (by rw [hown.1, h0])
            rw [hn] at hu; simp at hu
          · obtain ⟨b2, off2, he, _, hc2⟩ := hb.2 h0
            obtain ⟨rfl, rfl⟩ : g = b2 ∧ off = off2 := by injection he with he; injection he with h1 h2; exact ⟨h1, h2⟩
            exact (congrArg w.cell? (addr_add g off j)).trans (hc2 j u hu)
        have hrun := run_append_grow (P := P) w t ty e i z ht hi hz ⟨g, off, none⟩ n c (l.map bv) (by simp [hown.1, hsize]) holds ⟨b, boff, none⟩ m c' (l'.map bv) (by simp [hl', hsize]) hnews (by omega) (by omega) (by rw [hby]; exact growslice_fits (by omega) (by omega))
        have hge := grownCap_ge w (n + m) c e
        have hcm : grownCap w (n + m) c e ≤ maxLen := grownCap_le_maxLen w (n + m) c e (by unfold maxLen; omega)
        refine ⟨_, _, _, hrun, ⟨by simp [hown.1, hl'], .inr ⟨w.heap.size, 0, _, rfl, hbase, heap_alloc_new w.drew _, hge, ?_, hcm, ?_⟩⟩, (grown_drew w _).trans (grown_alloc w.drew _ _), .inr rfl⟩
        · simp only [Array.size_append, List.size_toArray, size_zeroCells, hzs, List.length_map, hown.1, hl']
          omega
        · simp only [Array.toList_append, List.append_assoc, List.drop_zero]
          rw [← List.append_assoc, List.map_append, List.take_append_of_le_length (by simp [hown.1, hl']), List.take_of_length_le (by simp [hown.1, hl'])]

theorem append_tail {ops : Array Oper} {rest : List Oper} {o : Oper} {a : Act} {Q : Exit → Act → World → Prop} (hgd : o.guard = none) (s x : Operand) (t : TypeId)
    (ho : o.op = .call { callee := .builtin .append, args := #[s, x], argTypes := #[t, t] })
    (e : TypeId) (i : TypeInfo) (z : Value) (ht : P.underlying t = some (.slice e)) (hi : P.info? e = some i) (hz : i.zero = some z)
    (hsize : i.size = 1) (hby : i.bytes = 1) (hzs : z.cells.size = 1) (w : World) (base : Nat)
    (A : Option Addr) (n c : Nat) (l : List UInt8) (hs : a.eval s = .slice A n c) (hown : OwnTail w base e A n c l)
    (B : Nat) (A' : Option Addr) (m c' : Nat) (l' : List UInt8) (hx : a.eval x = .slice A' m c') (hA : A' = none → m = 0 ∧ c' = 0) (hr : Bytes w B A' m l')
    (hmost : n + m ≤ 70368744177664) (hbase : base ≤ w.heap.size)
    (h : ∀ A2 c2 w', OwnTail w' base e A2 (n + m) c2 (l ++ l') → w.grownBy w' (blk A) → (blk A2 = blk A ∨ blk A2 = some w.heap.size) → wpList P ops Q rest (a.put o.dst (.slice A2 (n + m) c2)) w') :
    wpList P ops Q (o :: rest) a w := by
  refine wpList_plain hgd fun K hK => ?_
  obtain ⟨A2, c2, w', hrun, h2, h3, h4⟩ := run_append_tail (P := P) w base t o.type e i z ht hi hz hsize hby hzs A n c l hown B A' m c' l' hA hr hmost hbase
  unfold Oper.wp execOp
  simp only [ho, resolve, invoke, builtin, Sem.run_bind, Sem.run_pure, Result.andThen_ok, List.map_toArray, List.map_cons, List.map_nil, hs, hx, hrun]
  exact hK _ _ (h A2 c2 w' h2 h3 h4)
end
end Go.Proofs.YthkgjdhbibialaaDoor
