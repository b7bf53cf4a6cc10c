/- Package again: what Keep holds while it builds a page. -/
import Derived.Test.YtfpennnbicclfaaAgf
namespace Go.Proofs.Ytfpennnbicclfaa
open Go.RowKit

namespace Ag
/-- What Keep turns while it builds a page. -/
def KO (l : List Pg) (s : ByteArray) (x : Nat) : Prop := ∃ p ∈ l, p.wkr = s ∧ p.own x
theorem KO.wr {q : Nat} {m : Option Nat} {l : List Pg} {s : ByteArray} {x : Nat} (h : KO l s x) : Wr q m l x := by
  obtain ⟨p, hp, _, h⟩ := h
  exact .inr (.inr ⟨p, hp, h⟩)
theorem BkC.not_ko {w : World} {q : Nat} {m : Option Nat} {l : List Pg} {s : ByteArray} (hb : BkC w q m l) : ¬ KO l s q ∧ ∀ b, m = some b → ¬ KO l s b :=
  ⟨fun ⟨p, hp, _, h⟩ => (hb.sep p hp q (.inl h)).1 rfl, fun b hm ⟨p, hp, _, h⟩ => (hb.sep p hp b (.inl h)).2 hm⟩
/-- While Keep builds a page: z its block, the head's at w.heap.size. -/
structure KInv (w wx : World) (q : Nat) (m : Option Nat) (l : List Pg) (s : ByteArray) (i k : Int) (z : Nat) (cur : Pg) : Prop where
  cz : Cel wx z cur.raw.cells
  ch : Cel wx w.heap.size [.string s, .int .i64 i, .int .i64 k]
  kp : Kp (KO l s) w wx
  keys : OwnK iκ wx 0 3 cur.ka cur.keys.length cur.kc cur.keys
  rows : OwnK pκ wx 0 32 cur.ra cur.rows.length cur.rc cur.rows
  rep : ∀ r ∈ cur.rows, RpIn wx r
  o : ∀ x, cur.own x → (∃ p ∈ l, p.wkr = s ∧ p.own x) ∨ w.heap.size ≤ x
  r : ∀ x, cur.rd x → (∃ p ∈ l, p.wkr = s ∧ p.rd x) ∨ w.heap.size ≤ x
  ro : ∀ x, cur.rd x → ¬ cur.own x
  oz : ∀ x, cur.own x ∨ cur.rd x → x ≠ z ∧ x ≠ w.heap.size
  hz : w.heap.size < z
theorem ownB {A : Option Addr} {n c x : Nat} (h : (Value.slice A n c).ownBlock = some x) : ∃ a, A = some a ∧ a.block = x := by
  cases A with
  | none => cases h
  | some a => exact ⟨a, rfl, Option.some.inj h⟩
theorem fresh_in (w : World) (s : ByteArray) (i : Int) (hs : s.size ≤ 1000000) : PgIn w ⟨s, i, none, 0, [], none, 0, []⟩ :=
  ⟨⟨by decide, World.ownsRow_nil _ _ _ _⟩, ⟨by decide, World.ownsRow_nil _ _ _ _⟩, fun _ h => (by cases h), hs, ⟨Nat.zero_le _, rfl⟩⟩
theorem fresh_own {s : ByteArray} {i : Int} {x : Nat} : ¬ (⟨s, i, none, 0, [], none, 0, []⟩ : Pg).own x := by
  rintro (⟨a, h, _⟩ | ⟨a, h, _⟩) <;> cases h
theorem fresh_rd {s : ByteArray} {i : Int} {x : Nat} : ¬ (⟨s, i, none, 0, [], none, 0, []⟩ : Pg).rd x := by
  rintro ⟨r, h, _⟩
  cases h
theorem KInv.start {w wx : World} {q : Nat} {m : Option Nat} {l : List Pg} {s : ByteArray} {i k : Int} {z : Nat} {bp : Pg} {P Q R : Prop} (hb : BkC w q m l) (hs : s.size ≤ 1000000) (hw : bp.wkr = s) (hbp : (P ∧ bp = ⟨s, i, none, 0, [], none, 0, []⟩) ∨ (Q ∧ bp ∈ l ∧ R))
    (cz : Cel wx z bp.raw.cells) (hx : Below w.heap.size w wx) (ch : Cel wx w.heap.size [.string s, .int .i64 i, .int .i64 k]) (hz : w.heap.size < z) : KInv w wx q m l s i k z bp ∧ PgIn wx bp := by
  have hk : Kp (KO l s) w wx := Kp.of_below _ hx (Nat.le_refl _)
  rcases hbp with ⟨_, rfl⟩ | ⟨_, hp, _⟩
  · have hP := fresh_in wx s i hs
    exact ⟨⟨cz, ch, hk, hP.keys, hP.rows, hP.rep, fun x h => absurd h fresh_own, fun x h => absurd h fresh_rd, fun x h => absurd h fresh_rd, fun x h => h.elim (fun h => absurd h fresh_own) (fun h => absurd h fresh_rd), hz⟩, hP⟩
  · have hP0 := hb.pgs bp hp
    have hP := (hb.below hx).pgs bp hp
    exact ⟨⟨cz, ch, hk, hP.keys, hP.rows, hP.rep, fun x h => .inl ⟨bp, hp, hw, h⟩, fun x h => .inl ⟨bp, hp, hw, h⟩, fun x h => hb.still bp hp bp hp x h, fun x h => by
      have : x < w.heap.size := h.elim (fun h => hP0.own_lt h) (fun h => hP0.rd_lt h)
      omega, hz⟩, hP⟩
theorem KInv.key {w wx wy : World} {q : Nat} {m : Option Nat} {l : List Pg} {s : ByteArray} {i k : Int} {z n1 c1 n0 : Nat} {cur : Pg} {A1 : Option Addr} {ks : List Int} (h : KInv w wx q m l s i k z cur) (hn : n1 = ks.length)
    (ho : OwnK iκ wy 0 3 A1 n1 c1 ks) (hg : Grew wx wy (.slice cur.ka n0 cur.kc) (.slice A1 n1 c1)) : KInv w (wy.setCell ⟨z, 2, none⟩ (.slice A1 n1 c1)) q m l s i k z { cur with ka := A1, kc := c1, keys := ks } := by
  subst hn
  have hgo : ∀ x, (Value.slice cur.ka n0 cur.kc).ownBlock = some x → cur.own x := fun x hx => by
    obtain ⟨a, h1, h2⟩ := ownB hx
    exact .inl ⟨a, h1, h2⟩
  have hne : ∀ x, ¬ cur.own x → (Value.slice cur.ka n0 cur.kc).ownBlock ≠ some x := fun x hx e => hx (hgo x e)
  have hzlt : z < wx.heap.size := h.cz.lt
  have hA : ∀ a, A1 = some a → cur.own a.block ∨ wx.heap.size ≤ a.block := fun a ha => (grew_block hg ho ha).imp (fun ⟨a', h1, h2⟩ => .inl ⟨a', h1, h2⟩) id
  have hAz : ∀ a, A1 = some a → a.block ≠ z ∧ a.block ≠ w.heap.size := fun a ha => by
    rcases hA a ha with h1 | h1
    · exact h.oz _ (.inl h1)
    · have := h.hz
      omega
  have hkz : Kp (fun x => x = z) wy (wy.setCell ⟨z, 2, none⟩ (.slice A1 ks.length c1)) := Kp.of_grown (row := some z) (set_grown (World.grownBy.refl _ _) 2 _) (fun x _ e => (Option.some.inj e).symm)
  have hko : Kp cur.own wx wy := Kp.of_grew hg (fun x _ e => hgo x e)
  have hsz := hg.size
  have hwz : w.heap.size ≤ wx.heap.size := h.kp.size
  refine ⟨(h.cz.kept hg.grown (hne z fun e => (h.oz z (.inl e)).1 rfl)).set (i := 2) (by simp [Pg.raw, Rw.cells]) _, hkz.cel (h.ch.kept hg.grown (hne _ fun e => (h.oz _ (.inl e)).2 rfl)) (by have := h.hz; omega), ?_, hkz.own ho (fun a ha => (hAz a ha).1), ?_, fun r hr => ?_, fun x hx => ?_, h.r, fun x hx hx2 => ?_, fun x hx => ?_, h.hz⟩
  · refine (h.kp.past hko fun x hx e => ?_).past hkz fun x hx e => ?_
    · rcases h.o x e with h1 | h1
      · exact h1
      · omega
    · have := h.hz
      omega
  · have h1 : OwnK pκ wy 0 32 cur.ra cur.rows.length cur.rc cur.rows := h.rows.kept hg.grown (fun a ha e => by
      obtain ⟨a', h1, h2⟩ := ownB e
      exact OwnK.apart h.keys h.rows (by decide) h1 ha h2)
    exact hkz.own h1 (fun a ha => (h.oz _ (.inl (.inr ⟨a, ha, rfl⟩))).1)
  · exact hkz.rpIn (hko.rpIn (h.rep r hr) (fun h0 a ha => h.ro _ ⟨r, hr, h0, a, ha, rfl⟩)) (fun h0 a ha => (h.oz _ (.inr ⟨r, hr, h0, a, ha, rfl⟩)).1)
  · rcases hx with ⟨a, ha, rfl⟩ | hx
    · rcases hA a ha with h1 | h1
      · exact h.o _ h1
      · exact .inr (by omega)
    · exact h.o x (.inr hx)
  · have hxl : x < wx.heap.size := by
      obtain ⟨r, hr, h0, a, ha, rfl⟩ := hx
      exact (h.rep r hr).lt h0 a ha
    rcases hx2 with ⟨a, ha, rfl⟩ | hx2
    · rcases hA a ha with h1 | h1
      · exact h.ro _ hx h1
      · omega
    · exact h.ro x hx (.inr hx2)
  · rcases hx with (⟨a, ha, rfl⟩ | hx) | hx
    · exact hAz a ha
    · exact h.oz x (.inl (.inr hx))
    · exact h.oz x (.inr hx)
theorem rp_of_own {w : World} {base n c : Nat} {A : Option Addr} {l : List UInt8} (h : OwnBytes w base 5 A n c l) (hn : n ≤ 140737488355328) : RpIn w ⟨A, n, c, l⟩ ∧ ∀ a, A = some a → base ≤ a.block := by
  have hr : RowS w w.heap.size 1 A n (l.map bv) := RowS.own h
  rcases h.2 with ⟨hv, h0⟩ | ⟨g, cap, cur, hv, hg, hh, _⟩
  · injection hv with e1 e2 e3
    subst e1
    exact ⟨⟨hr, fun _ => ⟨h0, e3⟩, hn, fun _ a ha => (by cases ha)⟩, fun a ha => (by cases ha)⟩
  · injection hv with e1 e2 e3
    subst e1
    exact ⟨⟨hr, fun e => (by cases e), hn, fun _ a ha => (by cases ha; exact blk_lt hh)⟩, fun a ha => (by cases ha; exact hg)⟩
theorem KInv.cur_lt {w wx : World} {q : Nat} {m : Option Nat} {l : List Pg} {s : ByteArray} {i k : Int} {z : Nat} {cur : Pg} (h : KInv w wx q m l s i k z cur) {x : Nat} (hx : cur.own x) : x < wx.heap.size := by
  rcases hx with ⟨a, ha, rfl⟩ | ⟨a, ha, rfl⟩
  · exact (h.keys.block ha).2
  · exact (h.rows.block ha).2
theorem KInv.zfacts {w wx wy : World} {q : Nat} {m : Option Nat} {l : List Pg} {s : ByteArray} {i k : Int} {z n0 c0 : Nat} {cur : Pg} {A0 : Option Addr} {v : Value} (h : KInv w wx q m l s i k z cur) (hg : Grew wx wy (.slice A0 n0 c0) v) (ho : ∀ a, A0 = some a → cur.own a.block) : Cel wy z cur.raw.cells :=
  h.cz.kept hg.grown (fun e => by
    obtain ⟨a, h1, h2⟩ := ownB e
    exact (h.oz _ (.inl (ho a h1))).1 h2)
/-- Nothing of it turns. -/
theorem KInv.below {w wx wy : World} {q : Nat} {m : Option Nat} {l : List Pg} {s : ByteArray} {i k : Int} {z : Nat} {cur : Pg} (h : KInv w wx q m l s i k z cur) (hb : Below wx.heap.size wx wy) : KInv w wy q m l s i k z cur := by
  have hk : Kp (fun _ => False) wx wy := Kp.of_below _ hb (Nat.le_refl _)
  exact ⟨hk.cel h.cz id, hk.cel h.ch id, h.kp.past hk (fun _ _ e => e.elim), hk.own h.keys (fun _ _ => id), hk.own h.rows (fun _ _ => id), fun r hr => hk.rpIn (h.rep r hr) (fun _ _ _ => id), h.o, h.r, h.ro, h.oz, h.hz⟩
theorem KInv.row {w w0 wx wy : World} {q : Nat} {m : Option Nat} {l : List Pg} {s : ByteArray} {i k : Int} {z n1 c1 n0 : Nat} {cur : Pg} {A1 : Option Addr} {rs : List Part} {rp : Part} (h : KInv w wx q m l s i k z cur) (hn : n1 = rs.length)
    (hsub : ∀ r ∈ rs, r ∈ cur.rows ∨ r = rp) (hrp : RpIn wx rp) (h0 : ∀ a, rp.a = some a → w0.heap.size ≤ a.block) (hw0 : z < w0.heap.size) (hcur : ∀ x, cur.own x → x < w0.heap.size)
    (ho : OwnK pκ wy 0 32 A1 n1 c1 rs) (hg : Grew wx wy (.slice cur.ra n0 cur.rc) (.slice A1 n1 c1)) : KInv w (wy.setCell ⟨z, 3, none⟩ (.slice A1 n1 c1)) q m l s i k z { cur with ra := A1, rc := c1, rows := rs } := by
  subst hn
  have hgo : ∀ x, (Value.slice cur.ra n0 cur.rc).ownBlock = some x → cur.own x := fun x hx => by
    obtain ⟨a, h1, h2⟩ := ownB hx
    exact .inr ⟨a, h1, h2⟩
  have hne : ∀ x, ¬ cur.own x → (Value.slice cur.ra n0 cur.rc).ownBlock ≠ some x := fun x hx e => hx (hgo x e)
  have hzlt : z < wx.heap.size := h.cz.lt
  have hA : ∀ a, A1 = some a → cur.own a.block ∨ wx.heap.size ≤ a.block := fun a ha => (grew_block hg ho ha).imp (fun ⟨a', h1, h2⟩ => .inr ⟨a', h1, h2⟩) id
  have hAz : ∀ a, A1 = some a → a.block ≠ z ∧ a.block ≠ w.heap.size := fun a ha => by
    rcases hA a ha with h1 | h1
    · exact h.oz _ (.inl h1)
    · have := h.hz
      omega
  have hkz : Kp (fun x => x = z) wy (wy.setCell ⟨z, 3, none⟩ (.slice A1 rs.length c1)) := Kp.of_grown (row := some z) (set_grown (World.grownBy.refl _ _) 3 _) (fun x _ e => (Option.some.inj e).symm)
  have hko : Kp cur.own wx wy := Kp.of_grew hg (fun x _ e => hgo x e)
  have hsz := hg.size
  have hwz : w.heap.size ≤ wx.heap.size := h.kp.size
  have hR : ∀ r ∈ rs, RpIn wx r ∧ (0 < r.n → ∀ a, r.a = some a → (∃ r' ∈ cur.rows, 0 < r'.n ∧ r'.a = some a) ∨ w0.heap.size ≤ a.block) := fun r hr => by
    rcases hsub r hr with h1 | rfl
    · exact ⟨h.rep r h1, fun h00 a ha => .inl ⟨r, h1, h00, ha⟩⟩
    · exact ⟨hrp, fun _ a ha => .inr (h0 a ha)⟩
  have hRo : ∀ r ∈ rs, 0 < r.n → ∀ a, r.a = some a → ¬ cur.own a.block := fun r hr h00 a ha ho => by
    rcases (hR r hr).2 h00 a ha with ⟨r', h1, h01, h2⟩ | h1
    · exact h.ro _ ⟨r', h1, h01, a, h2, rfl⟩ ho
    · have := hcur _ ho
      omega
  have hRz : ∀ r ∈ rs, 0 < r.n → ∀ a, r.a = some a → a.block ≠ z ∧ a.block ≠ w.heap.size := fun r hr h00 a ha => by
    rcases (hR r hr).2 h00 a ha with ⟨r', h1, h01, h2⟩ | h1
    · exact h.oz _ (.inr ⟨r', h1, h01, a, h2, rfl⟩)
    · have := h.hz
      omega
  refine ⟨(h.cz.kept hg.grown (hne z fun e => (h.oz z (.inl e)).1 rfl)).set (i := 3) (by simp [Pg.raw, Rw.cells]) _, hkz.cel (h.ch.kept hg.grown (hne _ fun e => (h.oz _ (.inl e)).2 rfl)) (by have := h.hz; omega), ?_, ?_, hkz.own ho (fun a ha => (hAz a ha).1), fun r hr => ?_, fun x hx => ?_, fun x hx => ?_, fun x hx hx2 => ?_, fun x hx => ?_, h.hz⟩
  · refine (h.kp.past hko fun x hx e => ?_).past hkz fun x hx e => ?_
    · rcases h.o x e with h1 | h1
      · exact h1
      · omega
    · have := h.hz
      omega
  · have h1 : OwnK iκ wy 0 3 cur.ka cur.keys.length cur.kc cur.keys := h.keys.kept hg.grown (fun a ha e => by
      obtain ⟨a', h1, h2⟩ := ownB e
      exact OwnK.apart h.keys h.rows (by decide) ha h1 h2.symm)
    exact hkz.own h1 (fun a ha => (h.oz _ (.inl (.inl ⟨a, ha, rfl⟩))).1)
  · exact hkz.rpIn (hko.rpIn (hR r hr).1 (fun h0 a ha => hRo r hr h0 a ha)) (fun h0 a ha => (hRz r hr h0 a ha).1)
  · rcases hx with hx | ⟨a, ha, rfl⟩
    · exact h.o x (.inl hx)
    · rcases hA a ha with h1 | h1
      · exact h.o _ h1
      · exact .inr (by omega)
  · obtain ⟨r, hr, h0, a, ha, rfl⟩ := hx
    rcases (hR r hr).2 h0 a ha with ⟨r', h1, h00, h2⟩ | h1
    · exact h.r _ ⟨r', h1, h00, a, h2, rfl⟩
    · have := h.hz
      exact .inr (by omega)
  · obtain ⟨r, hr, h0, a, ha, rfl⟩ := hx
    rcases hx2 with hx2 | ⟨a', ha', he⟩
    · exact hRo r hr h0 a ha (.inl hx2)
    · rcases hA a' ha' with h1 | h1
      · exact hRo r hr h0 a ha (he ▸ h1)
      · have := (hR r hr).1.lt h0 a ha
        omega
  · rcases hx with (hx | ⟨a, ha, rfl⟩) | ⟨r, hr, h0, a, ha, rfl⟩
    · exact h.oz x (.inl (.inl hx))
    · exact hAz a ha
    · exact hRz r hr h0 a ha
theorem map_pushed {α β : Type} (f : α → β) (l : List α) (x : α) : (pushed l x).map f = pushed (l.map f) (f x) := by
  unfold pushed
  rw [List.map_drop, List.map_append, List.length_map]
  rfl
/-- The page is put. -/
theorem KInv.put {w wx wy : World} {q b : Nat} {m : Option Nat} {l : List Pg} {s : ByteArray} {i k : Int} {z : Nat} {cur : Pg} (h : KInv w wx q m l s i k z cur) (hb : BkC w q m l) (hw : cur.wkr = s) (hs : s.size ≤ 1000000) (hf : cur.keys.length ≤ 4 ∧ cur.rows.length = cur.keys.length)
    (hk : Kp (fun x => x = q ∨ x = b) wx wy) (hbm : m = some b ∨ (m = none ∧ wx.heap.size ≤ b)) (cel : Cel wy q [.map (some b)]) (own : Owns wy b (ins Pg.wkr cur l)) (room : (∃ p ∈ l, p.wkr = s) ∨ l.length < 6) :
    PutC w wy q b m l cur := by
  subst hw
  have hwx := h.kp.size
  have hlt : ∀ x, cur.own x ∨ cur.rd x → x < wx.heap.size := fun x hx => hx.elim (fun hx => h.cur_lt hx) fun ⟨r, hr, h0, a, ha, e⟩ => e ▸ (h.rep r hr).lt h0 a ha
  have hnb : ∀ x, cur.own x ∨ cur.rd x → x ≠ q ∧ x ≠ b := by
    intro x hx
    have h1 : (∃ p ∈ l, p.own x ∨ p.rd x) ∨ w.heap.size ≤ x := by
      rcases hx with hx | hx
      · exact (h.o x hx).imp (fun ⟨p, hp, _, ho⟩ => ⟨p, hp, .inl ho⟩) id
      · exact (h.r x hx).imp (fun ⟨p, hp, _, ho⟩ => ⟨p, hp, .inr ho⟩) id
    have hql := hb.cel.lt
    rcases h1 with ⟨p, hp, ho⟩ | h1
    · have hsep := hb.sep p hp x ho
      refine ⟨hsep.1, fun e => ?_⟩
      rcases hbm with hm | ⟨_, hm⟩
      · exact hsep.2 (by rw [hm, e])
      · have := hlt x hx
        omega
    · refine ⟨by omega, fun e => ?_⟩
      rcases hbm with hm | ⟨_, hm⟩
      · have := (hb.mlt hm).1
        omega
      · have := hlt x hx
        omega
  have hkr : ∀ x, cur.own x ∨ cur.rd x → ¬ (x = q ∨ x = b) := fun x hx e => e.elim (hnb x hx).1 (hnb x hx).2
  exact ⟨cel, own, hk.pgIn ⟨h.keys, h.rows, h.rep, hs, hf⟩ (fun x hx => hkr x (.inl hx)) (fun x hx => hkr x (.inr hx)),
    (h.kp.mono (fun x _ hx => (.inr (.inr hx) : KS q m l cur.wkr x))).past hk (fun x hx e => by
      rcases e with e | e
      · exact .inl e
      · rcases hbm with hm | ⟨_, hm⟩
        · exact .inr (.inl (by rw [hm, e]))
        · omega),
    h.o, h.r, h.ro, hbm.imp id (fun ⟨h1, h2⟩ => ⟨h1, by omega⟩), fun x hx => (hnb x hx).2, room⟩
end Ag
end Go.Proofs.Ytfpennnbicclfaa
