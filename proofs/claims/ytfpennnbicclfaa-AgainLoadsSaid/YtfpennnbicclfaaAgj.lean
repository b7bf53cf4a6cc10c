/- Package again: own, the walk. -/
import Derived.Test.YtfpennnbicclfaaAgi
import Derived.Test.YtfpennnbicclfaaOn
namespace Go.Proofs.Ytfpennnbicclfaa
open Go.RowKit

namespace Ag
theorem p_cell {w : World} {b off n B : Nat} {l : List Part} (h : KRow pκ w B (some ⟨b, off, none⟩) n l) {j : Nat} (hj : j < l.length) : w.cell? ⟨b, off + j, none⟩ = some (.slice (l[j]).a (l[j]).n (l[j]).c) := by
  have hl := h.len (by decide)
  obtain ⟨b', off', he, _, hcc⟩ := h.2 (by omega)
  injection he with he
  injection he with e1 e2
  subst e1
  subst e2
  rw [p_flat] at hcc
  refine hcc j _ ?_
  rw [List.getElem?_map, List.getElem?_eq_getElem hj]
  rfl
theorem cel_old {w w' : World} {b o : Nat} {v : Value} (hb : Below w.heap.size w w') (h : w.cell? ⟨b, o, none⟩ = some v) : w'.cell? ⟨b, o, none⟩ = some v := below_cells hb h
theorem own_ne_type {w : World} {base base' n n' c c' sz sz' : Nat} {e e' : TypeId} {A A' : Option Addr} {xs ys : List Value} (h : w.ownsRow base e sz (.slice A n c) n xs) (h' : w.ownsRow base' e' sz' (.slice A' n' c') n' ys) (hne : e ≠ e') {a a' : Addr} (ha : A = some a) (ha' : A' = some a') : a.block ≠ a'.block := by
  intro hbl
  rcases h.2 with ⟨hv, h0⟩ | ⟨g, cap, cur, hv, _, hh, _⟩
  · injection hv with h1; subst h1; cases ha
  rcases h'.2 with ⟨hv', h0'⟩ | ⟨g', cap', cur', hv', _, hh', _⟩
  · injection hv' with h1; subst h1; cases ha'
  injection hv with h1
  injection hv' with h2
  subst h1; subst h2
  obtain rfl := Option.some.inj ha
  obtain rfl := Option.some.inj ha'
  have hbl : g = g' := hbl
  subst hbl
  rw [hh] at hh'
  injection hh' with hh'
  injection hh' with _ ht
  exact hne ht
theorem hor_set {w : World} {base n c g j : Nat} {e : TypeId} {done rest : List Part} {rp : Part} {rs : List Part} (h : OwnK pκ w base e (some ⟨g, 0, none⟩) n c (done ++ rest)) (hd : done.length = j) (hr : rest = rp :: rs) (x : Part) :
    OwnK pκ (w.setCell ⟨g, j, none⟩ x.val) base e (some ⟨g, 0, none⟩) n c ((done ++ [x]) ++ rs) := by
  subst hr
  refine ⟨by decide, ?_⟩
  have h2 := h.2
  rw [p_flat] at h2 ⊢
  have h3 := own1_set (enc := Part.val) h2 j x
  have e1 : (done ++ rp :: rs).set j x = (done ++ [x]) ++ rs := by
    subst hd
    simp
  rw [e1] at h3
  exact h3
def mv4 (w : World) (z : Nat) (a b c d : Value) : World := (((w.setCell ⟨z, 0, none⟩ a).setCell ⟨z, 1, none⟩ b).setCell ⟨z, 2, none⟩ c).setCell ⟨z, 3, none⟩ d
theorem mv4_cel {w : World} {z : Nat} {a0 a1 a2 a3 : Value} (h : Cel w z [a0, a1, a2, a3]) (a b c d : Value) : Cel (mv4 w z a b c d) z [a, b, c, d] := (((h.set (i := 0) (by simp) a).set (i := 1) (by simp) b).set (i := 2) (by simp) c).set (i := 3) (by simp) d
theorem mv4_below {B : Nat} {w0 w : World} (h : Below B w0 w) {z : Nat} (hz : B ≤ z) (a b c d : Value) : Below B w0 (mv4 w z a b c d) := (((h.setCell (p := ⟨z, 0, none⟩) hz a).setCell (p := ⟨z, 1, none⟩) hz b).setCell (p := ⟨z, 2, none⟩) hz c).setCell (p := ⟨z, 3, none⟩) hz d
theorem mv4_kp (w : World) (z : Nat) (a b c d : Value) : Kp (fun x => x = z) w (mv4 w z a b c d) := Kp.of_grown (row := some z) (set_grown (set_grown (set_grown (set_grown (World.grownBy.refl _ _) 0 _) 1 _) 2 _) 3 _) (fun _ _ e => (Option.some.inj e).symm)
theorem set_mid {α : Type} {d r : List α} {j : Nat} (hd : d.length = j) (x y : α) : (d ++ y :: r).set j x = (d ++ [x]) ++ r := by
  subst hd
  simp
/-- What own hands out. -/
def OwnOut (w : World) (p : Pg) (e : Ending) (w' : World) : Prop := ∃ p' : Pg, e = .returned p'.raw.val ∧ p'.ab = p.ab ∧ p'.keys.length = p.keys.length ∧ p'.rows.length = p.rows.length ∧ PgOwn w' w.heap.size p' ∧ Below w.heap.size w w'
set_option maxRecDepth 10000 in
set_option maxHeartbeats 1600000 in
theorem own_any (p : Pg) (w : World) (h : PgAt w p) : Calls Try.prog 21 #[p.raw.val] w (OwnOut w p) := by
  obtain ⟨wkr, inc, ka, kc, keys, ra, rc, rows⟩ := p
  have hc1 : Cel (w.alloc (.cells #[.string wkr, .int .i64 inc, .slice ka keys.length kc, .slice ra rows.length rc] 51)) w.heap.size [.string wkr, .int .i64 inc, .slice ka keys.length kc, .slice ra rows.length rc] := Cel.lit w #[.string wkr, .int .i64 inc, .slice ka keys.length kc, .slice ra rows.length rc] 51
  have hb1 : Below w.heap.size w (w.alloc (.cells #[.string wkr, .int .i64 inc, .slice ka keys.length kc, .slice ra rows.length rc] 51)) := (Below.refl _ _).alloc (Nat.le_refl _) _
  have hsz : (w.alloc (.cells #[.string wkr, .int .i64 inc, .slice ka keys.length kc, .slice ra rows.length rc] 51)).heap.size = w.heap.size + 1 := by simp
  have hb2 := hb1.alloc hb1.size (.cells #[.string ⟨#[]⟩, .int .i64 0, .slice none 0 0, .slice none 0 0] 51)
  have hc2 := hc1.alloc (.cells #[.string ⟨#[]⟩, .int .i64 0, .slice none 0 0, .slice none 0 0] 51)
  have hr2 := Cel.lit (w.alloc (.cells #[.string wkr, .int .i64 inc, .slice ka keys.length kc, .slice ra rows.length rc] 51)) #[.string ⟨#[]⟩, .int .i64 0, .slice none 0 0, .slice none 0 0] 51
  rw [hsz] at hr2
  have HA := Lib.hid h
  have HAT := Lib.hid (h.below hb2)
  have HB2 := Lib.hid hb2
  have HC2 := Lib.hid hc2
  have HR2 := Lib.hid hr2
  obtain ⟨⟨p0, p1, p2, p3⟩, f0, f1, f2, f3⟩ := cel4 hc2
  have hlt := hc2.lt
  clear h hb1 hb2 hc1 hc2 hr2 hsz
  show Calls _ _ #[.agg #[.string wkr, .int .i64 inc, .slice ka keys.length kc, .slice ra rows.length rc]] _ _
  go_enter Try.func21, Try.ntmps21
  go_wp2_with fail
  have hw2 : w.heap.size + 1 < ((w.alloc (.cells #[.string wkr, .int .i64 inc, .slice ka keys.length kc, .slice ra rows.length rc] 51)).alloc (.cells #[.string ⟨#[]⟩, .int .i64 0, .slice none 0 0, .slice none 0 0] 51)).heap.size := by simp
  generalize (w.alloc _).alloc _ = w2 at *
  have HCI := Lib.hid (clonei_any ka keys.length kc keys w2 HAT.out.kp HAT.out.keys HAT.out.few.1)
  refine HCI.out.mono ?_
  rintro e w3 ⟨A3, c3, rfl, ho3, hb3⟩
  clear HCI
  have hz3 := Nat.lt_of_lt_of_le hlt hb3.size
  have hc3 := HC2.out.below hb3 (Nat.le_refl _)
  have hr3 := HR2.out.below hb3 (Nat.le_refl _)
  have HO3 := Lib.hid ho3
  have HB3 := Lib.hid (HB2.out.trans (hb3.mono HB2.out.size))
  have HAT3 := Lib.hid (HAT.out.below hb3)
  have HC3 := Lib.hid hc3
  have HR3 := Lib.hid hr3
  have HG3 := Lib.hid hb3.size
  clear p0 p1 p2 p3 f0 f1 f2 f3 hlt ho3 hb3 HAT
  obtain ⟨⟨p0, p1, p2, p3⟩, f0, f1, f2, f3⟩ := cel4 hc3
  clear hc3 hr3
  go_wp2_with fail
  have hset := HC3.out.set (i := 2) (by simp) (.slice A3 keys.length c3)
  have hsb := HB3.out.setCell (p := ⟨w.heap.size, 2, none⟩) (Nat.le_refl _) (.slice A3 keys.length c3)
  have hkz : Kp (fun x => x = w.heap.size) w3 (w3.setCell ⟨w.heap.size, 2, none⟩ (.slice A3 keys.length c3)) := Kp.of_grown (row := some w.heap.size) (set_grown (World.grownBy.refl _ _) 2 _) (fun x _ e => (Option.some.inj e).symm)
  have HR4 := Lib.hid (hkz.cel HR3.out (by omega))
  have HO4 := Lib.hid (hkz.own HO3.out (fun a ha e => by have := (HO3.out.block ha).1; have := HC2.out.lt; omega))
  have HAT4 := Lib.hid (HA.out.below hsb)
  have hz4 := hset.lt
  have HC4 := Lib.hid hset
  have HB4 := Lib.hid hsb
  have HG4 := Lib.hid (Nat.le_trans HG3.out hkz.size)
  obtain ⟨⟨p0, p1, p2, p3⟩, f0, f1, f2, f3⟩ := cel4 hset
  clear hset hsb hkz HO3 HAT3 HC3 HR3 HB3 hz3 HG3
  generalize w3.setCell _ _ = w4 at *
  have HCP := Lib.hid (clonep_any ra rows.length rc rows w4 HAT4.out.rp HAT4.out.rows HAT4.out.few.2)
  refine HCP.out.mono ?_
  rintro e w5 ⟨A5, c5, rfl, ho5, hb5⟩
  clear HCP p0 p1 p2 p3 f0 f1 f2 f3
  have hc5 := HC4.out.below hb5 (Nat.le_refl _)
  have HO5 := Lib.hid ho5
  have HC5 := Lib.hid hc5
  have HR5 := Lib.hid (HR4.out.below hb5 (Nat.le_refl _))
  have HK5 := Lib.hid (HO4.out.below hb5 (Nat.le_refl _))
  have HB5 := Lib.hid (HB4.out.trans (hb5.mono HB4.out.size))
  have hz5 := hc5.lt
  have HG5 := Lib.hid hb5.size
  obtain ⟨⟨p0, p1, p2, p3⟩, f0, f1, f2, f3⟩ := cel4 hc5
  clear hc5 ho5 hb5 hz4 HO4 HC4 HR4 HB4 HAT4
  have hset := HC5.out.set (i := 3) (by simp) (.slice A5 rows.length c5)
  have hsb := HB5.out.setCell (p := ⟨w.heap.size, 3, none⟩) (Nat.le_refl _) (.slice A5 rows.length c5)
  have hkz : Kp (fun x => x = w.heap.size) w5 (w5.setCell ⟨w.heap.size, 3, none⟩ (.slice A5 rows.length c5)) := Kp.of_grown (row := some w.heap.size) (set_grown (World.grownBy.refl _ _) 3 _) (fun x _ e => (Option.some.inj e).symm)
  have hw4 : w2.heap.size ≤ w4.heap.size := HG4.out
  have HR6 := Lib.hid (hkz.cel HR5.out (by omega))
  have HK6 := Lib.hid (hkz.own HK5.out (fun a ha e => by have := (HK5.out.block ha).1; omega))
  have HO6 := Lib.hid ((hkz.own HO5.out (fun a ha e => by have := (HO5.out.block ha).1; omega)).lower (base' := w2.heap.size) hw4)
  have HC6 := Lib.hid hset
  have HB6 := Lib.hid hsb
  have HS6 := Lib.hid (Nat.le_trans (Nat.le_trans hw4 HG5.out) hkz.size)
  clear hset hsb hkz HO5 HC5 HR5 HK5 HB5 hw4 HG4 HG5
  go_upto_region 3 with (fail)
  clear hz5 p0 p1 p2 p3 f0 f1 f2 f3
  generalize w5.setCell _ _ = w6 at *
  obtain ⟨⟨p0, p1, p2, p3⟩, f0, f1, f2, f3⟩ := cel4 HC6.out
  go_wp2_with fail
  go_loopw [16] (fun s16 wr => ∃ (j : Nat) (done : List Part), s16 = .int .i64 j ∧ done.length = j ∧ j ≤ rows.length ∧ done.map Part.l = (rows.take j).map Part.l ∧ OwnK pκ wr w2.heap.size 32 A5 rows.length c5 (done ++ rows.drop j) ∧ (∀ r ∈ done, OwnBytes wr w2.heap.size 5 r.a r.n r.c r.l ∧ r.n ≤ 140737488355328) ∧
    Cel wr w.heap.size [.string wkr, .int .i64 inc, .slice A3 keys.length c3, .slice A5 rows.length c5] ∧ Cel wr (w.heap.size + 1) [.string ⟨#[]⟩, .int .i64 0, .slice none 0 0, .slice none 0 0] ∧ OwnK iκ wr w2.heap.size 3 A3 keys.length c3 keys ∧ Below w.heap.size w wr ∧ w2.heap.size ≤ wr.heap.size) (fun s16 _ => rows.length - (intOf s16).toNat)
  case atStart => exact ⟨0, [], rfl, rfl, Nat.zero_le _, rfl, HO6.out, fun _ h => (by cases h), HC6.out, HR6.out, HK6.out, HB6.out, HS6.out⟩
  case round =>
    clear p0 p1 p2 p3 f0 f1 f2 f3 HO6 HC6 HR6 HK6 HB6
    obtain ⟨j, done, rfl, hdl, hj, hdm, hor, hdo, hcr, hrr, hkr, hbr, hs2⟩ := hrel
    have hj0 : (0 : Int) ≤ (j : Int) := by omega
    have hfew : rows.length ≤ 1000 := HA.out.few.2
    have HDL := Lib.hid hdl
    have HDM := Lib.hid hdm
    have HOR := Lib.hid hor
    have HDO := Lib.hid hdo
    have HCR := Lib.hid hcr
    have HRR := Lib.hid hrr
    have HKR := Lib.hid hkr
    have HBR := Lib.hid hbr
    clear hdl hdm hor hdo hcr hrr hkr hbr
    by_cases hlt : j < rows.length
    · have hI : (j : Int) < (rows.length : Int) := by omega
      have hdr : rows.drop j = rows[j] :: rows.drop (j + 1) := List.drop_eq_getElem_cons hlt
      obtain ⟨g, c5', hA5, hg5⟩ : ∃ g c', A5 = some ⟨g, 0, none⟩ ∧ w2.heap.size ≤ g ∧ c' = c5 := by
        rcases HOR.out.2.2 with ⟨_, h0⟩ | ⟨g, cap, cur, hv, hg, _⟩
        · omega
        · injection hv with e1 e2 e3
          exact ⟨g, c5, e1, hg, rfl⟩
      subst hA5
      have hel := p_cell HOR.out.row (j := j) (by rw [List.length_append, HDL.out, List.length_drop]; omega)
      have hge : (done ++ rows.drop j)[j]'(by rw [List.length_append, HDL.out, List.length_drop]; omega) = rows[j] := by
        rw [List.getElem_append_right (by rw [HDL.out]; exact Nat.le_refl _)]
        simp [HDL.out]
      rw [hge, Nat.zero_add] at hel
      have hrp := HA.out.rep rows[j] (List.getElem_mem hlt)
      have HTK := Lib.hid (show (rows.take (j + 1)).map Part.l = (rows.take j).map Part.l ++ [(rows[j]).l] by rw [List.take_succ_eq_append_getElem hlt, List.map_append]; rfl)
      have HDR := Lib.hid hdr
      clear hge hdr
      generalize rows[j] = rp at *
      obtain ⟨qa, qn, qc, ql⟩ := rp
      have hbd : Below w.heap.size w wr.drew := HBR.out.drew
      have hrp2 := (Kp.of_below (fun _ => False) hbd (Nat.le_refl _)).rpIn hrp (fun _ _ _ => id)
      have HCL := Lib.hid (clone_any qa qn qc ql wr.drew hrp2.row hrp2.nn (by have := hrp2.len; dsimp only at this; omega))
      have HQN := Lib.hid hrp2.len
      obtain ⟨⟨p0, p1, p2, p3⟩, f0, f1, f2, f3⟩ := cel4 HCR.out
      have hzr := HCR.out.lt
      clear hrp hrp2 hbd
      go_upto_region 6 with (fail)
      go_region_law (go_simp; go_at_call 26; refine HCL.out.mono ?_; rintro e w8 ⟨A8, c8, rfl, hO8, hb8⟩; have HO8 := Lib.hid hO8; have HB8 := Lib.hid ((Below.refl wr.heap.size wr).drew.trans hb8); obtain ⟨⟨g0, g1, g2, g3⟩, _⟩ := cel4 (HCR.out.below HB8.out (Nat.le_refl _)); have HOR8 := Lib.hid (HOR.out.below HB8.out (Nat.le_refl _)); have hfr := own1_frozen HOR8.out.2 j; have hz8 := (HOR8.out.block rfl).2; have hcs := (cel_old HB8.out hel); clear hO8 hb8)
      all_goals
        have hkg : Kp (fun x => x = g) w8 (w8.setCell ⟨g, j, none⟩ (.slice A8 qn c8)) := Kp.of_grown (row := some g) (set_grown (World.grownBy.refl _ _) j _) (fun x _ e => (Option.some.inj e).symm)
        have hbw8 := HBR.out.trans (HB8.out.mono HBR.out.size)
        have hset := hor_set HOR8.out HDL.out HDR.out ⟨A8, qn, c8, ql⟩
        have hdo8 : ∀ r ∈ done ++ [(⟨A8, qn, c8, ql⟩ : Part)], OwnBytes (w8.setCell ⟨g, j, none⟩ (.slice A8 qn c8)) w2.heap.size 5 r.a r.n r.c r.l ∧ r.n ≤ 140737488355328 := by
          intro r hr
          have h1 : OwnBytes w8 w2.heap.size 5 r.a r.n r.c r.l ∧ r.n ≤ 140737488355328 := by
            rcases List.mem_append.1 hr with hr | hr
            · exact ⟨own_below (HDO.out r hr).1 HB8.out (Nat.le_refl _), (HDO.out r hr).2⟩
            · rw [List.mem_singleton] at hr
              subst hr
              exact ⟨own_base HO8.out hs2, HQN.out⟩
          exact ⟨hkg.rowOwn h1.1 (fun x hx e => by
            subst e
            obtain ⟨a, ha, he⟩ := ownB hx
            exact own_ne_type h1.1 HOR8.out.2 (by decide) ha rfl he), h1.2⟩
        have hr3 := hkg.cel (HCR.out.below HB8.out (Nat.le_refl _)) (by omega)
        have hr4 := hkg.cel (HRR.out.below HB8.out (Nat.le_refl _)) (by omega)
        have hr5 := hkg.own (HKR.out.below HB8.out (Nat.le_refl _)) (fun a ha e => OwnK.apart (HKR.out.below HB8.out (Nat.le_refl _)) HOR8.out (by decide) ha rfl e)
        have hr6 := hbw8.setCell (p := ⟨g, j, none⟩) (by show w.heap.size ≤ g; omega) (.slice A8 qn c8)
        have hr7 := Nat.le_trans hs2 (Nat.le_trans HB8.out.size hkg.size)
        have HREL := Lib.hid (And.intro hset (And.intro hdo8 (And.intro hr3 (And.intro hr4 (And.intro hr5 (And.intro hr6 hr7))))))
        clear hr3 hr4 hr5 hr6 hr7
        clear hkg hbw8 hset hdo8 g0 g1 g2 g3 hfr hcs
        go_wp2
        go_roundw
        case rel =>
          obtain ⟨r1, r2, r3, r4, r5, r6, r7⟩ := HREL.out
          exact ⟨j + 1, done ++ [(⟨A8, qn, c8, ql⟩ : Part)], by first | rfl | go_num, by rw [List.length_append, HDL.out]; rfl, by omega, by rw [List.map_append, HDM.out, HTK.out]; rfl, r1, r2, r3, r4, r5, r6, r7⟩
        case measure =>
          simp only [intOf]
          omega
    · obtain rfl : j = rows.length := by omega
      obtain ⟨⟨p0, p1, p2, p3⟩, f0, f1, f2, f3⟩ := cel4 HCR.out
      obtain ⟨⟨q0, q1, q2, q3⟩, v0, v1, v2, v3⟩ := cel4 HRR.out
      have hor := HOR.out
      have hdm := HDM.out
      rw [List.drop_length, List.append_nil] at hor
      rw [List.take_length] at hdm
      have hzr := HRR.out.lt
      have hz0 := HCR.out.lt
      have hsetR := mv4_cel HRR.out (.string wkr) (.int .i64 inc) (.slice A3 keys.length c3) (.slice A5 rows.length c5)
      have hbR := mv4_below HBR.out (z := w.heap.size + 1) (by omega) (.string wkr) (.int .i64 inc) (.slice A3 keys.length c3) (.slice A5 rows.length c5)
      have hkg := mv4_kp wr (w.heap.size + 1) (.string wkr) (.int .i64 inc) (.slice A3 keys.length c3) (.slice A5 rows.length c5)
      have hlen : done.length = rows.length := HDL.out
      have hrowO := hkg.own hor (fun a ha e => by have := (hor.block ha).1; omega)
      have hkeyO := hkg.own HKR.out (fun a ha e => by have := (HKR.out.block ha).1; omega)
      have hrepO : ∀ r ∈ done, OwnBytes (mv4 wr (w.heap.size + 1) (.string wkr) (.int .i64 inc) (.slice A3 keys.length c3) (.slice A5 rows.length c5)) w.heap.size 5 r.a r.n r.c r.l ∧ r.n ≤ 140737488355328 := fun r hr => by
        have h1 := HDO.out r hr
        refine ⟨own_base (hkg.rowOwn h1.1 (fun x hx e => ?_)) (by omega), h1.2⟩
        obtain ⟨a, ha, he⟩ := ownB hx
        rcases h1.1.2 with ⟨hv, _⟩ | ⟨g, cap, cur, hv, hg, _⟩
        · injection hv with e1
          rw [e1] at ha
          cases ha
        · injection hv with e1
          rw [e1] at ha
          obtain rfl := Option.some.inj ha
          have he : g = x := he
          omega
      have HFIN := Lib.hid (show OwnOut w ⟨wkr, inc, ka, kc, keys, ra, rc, rows⟩ (.returned (.agg #[.string wkr, .int .i64 inc, .slice A3 keys.length c3, .slice A5 rows.length c5])) (mv4 wr (w.heap.size + 1) (.string wkr) (.int .i64 inc) (.slice A3 keys.length c3) (.slice A5 rows.length c5)) from
        ⟨⟨wkr, inc, A3, c3, keys, A5, c5, done⟩, by rw [← hlen]; rfl, by show (⟨wkr, inc, keys, done.map Part.l⟩ : Ab) = ⟨wkr, inc, keys, rows.map Part.l⟩; rw [hdm], rfl, hlen, ⟨hkeyO.lower (by omega), by show OwnK _ _ _ _ _ done.length _ _; rw [hlen]; exact hrowO.lower (by omega), hrepO⟩, hbR⟩)
      have HSR := Lib.hid hsetR
      clear hsetR hbR hkg hlen hrowO hkeyO hrepO hor hdm HDL HDM HOR HDO HKR HBR
      go_wp2
      change bodyPost _ _ _ _ _ (mv4 wr (w.heap.size + 1) _ _ _ _)
      generalize mv4 wr (w.heap.size + 1) _ _ _ _ = wz at *
      obtain ⟨⟨j0, j1, j2, j3⟩, _⟩ := cel4 HSR.out
      exact bodyPost_ret (v := .agg #[.string wkr, .int .i64 inc, .slice A3 keys.length c3, .slice A5 rows.length c5]) (by simp [results, Try.results21, go_sem, j0, j1, j2, j3]) rfl HFIN.out
end Ag
end Go.Proofs.Ytfpennnbicclfaa
