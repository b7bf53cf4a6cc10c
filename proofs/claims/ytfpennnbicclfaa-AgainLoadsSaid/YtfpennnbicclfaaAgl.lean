/- Package again: All. -/
import Derived.Test.YtfpennnbicclfaaAgk
namespace Go.Proofs.Ytfpennnbicclfaa
open Go.RowKit

namespace Ag
/-- Rows of pages. -/
def rκ : Cs Rw := ⟨4, Rw.cells, fun _ => rfl, fun x u hu => by
  simp only [Rw.cells, List.mem_cons, List.not_mem_nil, or_false] at hu
  rcases hu with rfl | rfl | rfl | rfl <;> rfl⟩
theorem info_pg : (Try.prog.info? 51).map (fun i => (i.zero, i.size, i.bytes)) = some (some (.agg #[.string ⟨#[]⟩, .int .i64 0, .slice none 0 0, .slice none 0 0]), 4, 72) := by kernel_rfl
instance : Inhabited Pg := ⟨⟨⟨#[]⟩, 0, none, 0, [], none, 0, []⟩⟩
set_option maxRecDepth 20000 in
theorem look_run1 {w : World} {b : Nat} {l : List Pg} {p : Pg} (ho : Owns w b l) (ha : Asc Pg.wkr l) (hp : p ∈ l) (hs : p.wkr.size ≤ maxLen) :
    (Instr.lookup 25 (.map (some b)) (.string p.wkr) false).run Try.prog w = .ok p.raw.val w := by
  obtain ⟨v, ps, h1, h2⟩ := World.ownsMap.lookup ho law Try.underlying25 (zeroPg w) (rwR_mk Rw.zero) (key_str hs)
  obtain ⟨x, rfl, h3⟩ := rwR_inv h2
  have h4 := congrArg Prod.fst h3
  dsimp only at h4
  rw [at_mapD, at_of Pg.wkr ha hp] at h4
  have e : x = p.raw := by
    injection h4 with h4
    exact h4.symm
  rw [e] at h1
  exact h1
theorem PgOwn.at_ {w : World} {base : Nat} {p : Pg} (h : PgOwn w base p) (hf : p.keys.length ≤ 1000 ∧ p.rows.length ≤ 1000) : PgAt w p :=
  ⟨OwnK.pl h.keys, OwnK.pl h.rows, h.keys.row, h.rows.row, fun r hr => (rp_of_own (h.rep r hr).1 (h.rep r hr).2).1, hf, OwnK.caps h.keys⟩
theorem PgOwn.lower {w : World} {base base' : Nat} {p : Pg} (h : PgOwn w base p) (hb : base' ≤ base) : PgOwn w base' p :=
  ⟨h.keys.lower hb, h.rows.lower hb, fun r hr => ⟨own_base (h.rep r hr).1 hb, (h.rep r hr).2⟩⟩
/-- .. another row grew. -/
theorem PgOwn.grew {w w' : World} {base base' n c n' c' : Nat} {A A' : Option Addr} {p : Pg} {xs : List Rw} (h : PgOwn w base p) (ho : OwnK rκ w base' 51 A n c xs) (hg : Grew w w' (.slice A n c) (.slice A' n' c')) : PgOwn w' base p := by
  have hne : ∀ {e : TypeId} {b2 n2 c2 s2 : Nat} {A2 : Option Addr} {ys : List Value}, w.ownsRow b2 e s2 (.slice A2 n2 c2) n2 ys → e ≠ 51 → w'.ownsRow b2 e s2 (.slice A2 n2 c2) n2 ys := by
    intro e b2 n2 c2 s2 A2 ys h2 hn
    refine (Kp.of_grew (S := fun x => (Value.slice A n c).ownBlock = some x) hg (fun _ _ e => e)).rowOwn h2 fun x hx e2 => ?_
    obtain ⟨a, ha, he⟩ := ownB e2
    obtain ⟨a2, ha2, he2⟩ := ownB hx
    exact own_ne_type h2 ho.2 hn ha2 ha (he2.trans he.symm)
  exact ⟨⟨h.keys.1, hne h.keys.2 (by decide)⟩, ⟨h.rows.1, hne h.rows.2 (by decide)⟩, fun r hr => ⟨hne (h.rep r hr).1 (by decide), (h.rep r hr).2⟩⟩
/-- What All hands out. -/
def AllOut (w : World) (l : List Pg) (e : Ending) (w' : World) : Prop :=
  ∃ (A : Option Addr) (c : Nat) (ps : List Pg), e = .returned (.slice A ps.length c) ∧ ps.map Pg.ab = l.map Pg.ab ∧ OwnK rκ w' w.heap.size 51 A ps.length c (ps.map Pg.raw) ∧ (∀ p ∈ ps, PgOwn w' w.heap.size p) ∧ Below w.heap.size w w'
theorem x_cell {w : World} {b off n B : Nat} {l : List ByteArray} (h : KRow xκ w B (some ⟨b, off, none⟩) n l) {j : Nat} (hj : j < l.length) : w.cell? ⟨b, off + j, none⟩ = some (.string l[j]) := by
  have hl := h.len (by decide)
  obtain ⟨b', off', he, _, hcc⟩ := h.2 (by omega)
  injection he with he
  injection he with e1 e2
  subst e1
  subst e2
  rw [x_flat] at hcc
  refine hcc j _ ?_
  rw [List.getElem?_map, List.getElem?_eq_getElem hj]
  rfl
set_option maxRecDepth 10000 in
set_option maxHeartbeats 1600000 in
theorem all_any (q : Nat) (m : Option Nat) (l : List Pg) (w : World) (hb : BkC w q m l) : Calls Try.prog 10 #[.pointer (some ⟨q, 0, none⟩)] w (AllOut w l) := by
  obtain ⟨i0, hi0, hz0, hz1, hz2⟩ := info_parts info_pg
  have hba : Below w.heap.size w (w.alloc (.cells #[.map m] 25)) := (Below.refl _ _).alloc (Nat.le_refl _) _
  have HS := Lib.hid (sorted_any q m l w.heap.size _ (hb.below hba) (by simp) ((Cel.lit w #[.map m] 25).cell 0 _ rfl))
  have HBA := Lib.hid hba
  have HB := Lib.hid hb
  have c0 := hb.cel.cell 0 _ rfl
  clear hb hba
  go_enter Try.func10, Try.ntmps10
  go_wp2_with fail
  refine (mkeys_any _ _).mono ?_
  rintro e w' ⟨rfl, rfl⟩
  go_wp2_with fail
  refine HS.out.mono ?_
  rintro e w2 ⟨A2, c2, rfl, ho2, hb2⟩
  have HB2 := Lib.hid (HBA.out.trans (hb2.mono HBA.out.size))
  have HO2 := Lib.hid ho2
  clear HS HBA ho2 hb2 c0
  go_wp2_with fail
  go_loopw [3, 13] (fun s3 s13 wr => ∃ (j : Nat) (A : Option Addr) (c : Nat) (ps : List Pg), s13 = .int .i64 j ∧ s3 = .slice A ps.length c ∧ ps.length = j ∧ j ≤ l.length ∧ ps.map Pg.ab = (l.take j).map Pg.ab ∧ OwnK rκ wr w2.heap.size 51 A ps.length c (ps.map Pg.raw) ∧ (∀ p ∈ ps, PgOwn wr w2.heap.size p) ∧ Below w2.heap.size w2 wr) (fun _ s13 _ => l.length - (intOf s13).toNat)
  case atStart => exact ⟨0, none, 0, [], rfl, rfl, rfl, Nat.zero_le _, rfl, ⟨by decide, World.ownsRow_nil _ _ _ _⟩, fun _ h => (by cases h), Below.refl _ _⟩
  case round =>
    obtain ⟨j, A, c, ps, rfl, rfl, hpl, hj, hab, hor, hpo, hbr⟩ := hrel
    have hj0 : (0 : Int) ≤ (j : Int) := by omega
    have hfew := HB.out.few
    have HPL := Lib.hid hpl
    have HAB := Lib.hid hab
    have HOR := Lib.hid hor
    have HPO := Lib.hid hpo
    have HBR := Lib.hid hbr
    have HBW := Lib.hid (HB2.out.trans (hbr.mono HB2.out.size))
    clear hpl hab hor hpo hbr
    by_cases hlt : j < l.length
    · have hI : (j : Int) < (l.length : Int) := by omega
      have hbk := HB.out.below HBW.out
      have c0 := hbk.cel.cell 0 _ rfl
      have hmem : l[j] ∈ l := List.getElem_mem hlt
      have hrow := HO2.out.below HBR.out (Nat.le_refl _)
      obtain ⟨g, hA2⟩ : ∃ g, A2 = some ⟨g, 0, none⟩ := by
        rcases hrow.2.2 with ⟨_, h0⟩ | ⟨g, cap, cur, hv, _⟩
        · omega
        · injection hv with e1
          exact ⟨g, e1⟩
      subst hA2
      have hel := x_cell hrow.row (j := j) (by simpa using hlt)
      rw [List.getElem_map, Nat.zero_add] at hel
      have hwk : (l[j]).wkr.size ≤ maxLen := by have := (hbk.pgs _ hmem).wkr; unfold maxLen; omega
      have HTK := Lib.hid (show (l.take (j + 1)).map Pg.ab = (l.take j).map Pg.ab ++ [(l[j]).ab] by rw [List.take_succ_eq_append_getElem hlt, List.map_append]; rfl)
      obtain ⟨b, rfl, hob⟩ : ∃ b, m = some b ∧ Owns wr b l := by
        rcases hbk.own with ⟨_, h0⟩ | h
        · rw [h0] at hlt
          cases hlt
        · exact h
      have hlk := look_run1 hob hbk.asc hmem hwk
      have HOWN := Lib.hid (own_any l[j] wr (hbk.pgs _ hmem).at_)
      have HFW := Lib.hid (hbk.pgs _ hmem).few
      clear hbk hmem hrow hwk hob
      generalize l[j] = p at *
      obtain ⟨wkr, inc, ka, kc, keys, ra, rc, rows⟩ := p
      unfold Pg.raw Rw.val at hlk HOWN
      dsimp only at hlk hel HOWN
      have hpl1 : ps.length ≤ 1000 := by have := HPL.out; omega
      go_wp2_with (first
        | (go_at_call 21; refine HOWN.out.mono ?_; rintro e w4 ⟨⟨wk, ic, xa, xc, xk, ya, yc, ys⟩, rfl, hab4, hkl4, hrl4, hpo4, hb4⟩; unfold Pg.raw Rw.val; dsimp only; have HAB4 := Lib.hid hab4; have HPO4 := Lib.hid hpo4; have HB4 := Lib.hid hb4; have HL4 := Lib.hid (KRow.lit (κ := rκ) w4 51 [(⟨wk, ic, xa, xk.length, xc, ya, ys.length, yc⟩ : Rw)] #[.string wk, .int .i64 ic, .slice xa xk.length xc, .slice ya ys.length yc] rfl); have HO4 := Lib.hid ((HOR.out.below hb4 (Nat.le_refl _)).below ((Below.refl w4.heap.size w4).alloc (Nat.le_refl _) (.cells #[.string wk, .int .i64 ic, .slice xa xk.length xc, .slice ya ys.length yc] 51)) (Nat.le_refl _)); have HSZ4 := Lib.hid (show w2.heap.size ≤ (w4.alloc (.cells #[.string wk, .int .i64 ic, .slice xa xk.length xc, .slice ya ys.length yc] 51)).heap.size by have h1 := HBR.out.size; have h2 := hb4.size; simp; omega); clear hab4 hkl4 hrl4 hpo4 hb4)
        | (at_builtin; refine append_k (κ := rκ) rfl (.tmp 17) (.tmp 25) 36 51 i0 _ 72 Try.underlying36 hi0 hz0 hz1 hz2 rfl rfl _ w2.heap.size _ A ps.length c (ps.map Pg.raw) _ _ rfl HO4.out rfl HL4.out (by omega) (by decide) HSZ4.out ?_; intro A5 c5 w5 ho5 hg5; have HO5 := Lib.hid ho5; have HG5 := Lib.hid hg5; clear ho5 hg5))
      have hxb : Below w4.heap.size w4 (w4.alloc (.cells #[.string wk, .int .i64 ic, .slice xa xk.length xc, .slice ya ys.length yc] 51)) := (Below.refl _ _).alloc (Nat.le_refl _) _
      have hb5 : Below w2.heap.size w2 w5 := by
        have h1 := HBR.out.trans (HB4.out.mono HBR.out.size)
        exact (h1.trans (hxb.mono h1.size)).trans (Grew.below HG5.out HO4.out.2 HSZ4.out)
      go_roundw
      case rel =>
        refine ⟨j + 1, A5, c5, ps ++ [⟨wk, ic, xa, xc, xk, ya, yc, ys⟩], by first | rfl | go_num, by rw [List.length_append]; rfl, by rw [List.length_append, HPL.out]; rfl, by omega, by rw [List.map_append, HAB.out, HTK.out, ← HAB4.out]; rfl, ?_, fun p hp => ?_, hb5⟩
        · rw [List.map_append, List.length_append]
          exact HO5.out
        · have h1 : PgOwn w4 w2.heap.size p := by
            rcases List.mem_append.1 hp with hp | hp
            · exact (HPO.out p hp).below HB4.out
            · rw [List.mem_singleton] at hp
              subst hp
              exact HPO4.out.lower HBR.out.size
          exact (h1.below hxb).grew HO4.out HG5.out
      case measure =>
        simp only [intOf]
        omega
    · obtain rfl : j = l.length := by omega
      have hab := HAB.out
      rw [List.take_length] at hab
      go_wp2
      go_ret
      exact ⟨A, c, ps, rfl, hab, HOR.out.lower HB2.out.size, fun p hp => (HPO.out p hp).lower HB2.out.size, HBW.out⟩
end Ag
end Go.Proofs.Ytfpennnbicclfaa
