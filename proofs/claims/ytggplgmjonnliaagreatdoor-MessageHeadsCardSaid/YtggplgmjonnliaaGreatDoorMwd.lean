/- Package message: takeNumber, takeOther, takeHead, takeParts of an Unlock. Printed by tools/specs/message/heads.py. -/
import Derived.Test.YtggplgmjonnliaaGreatDoorRk
import Derived.Test.YtggplgmjonnliaaGreatDoorMwc
namespace Go.Proofs.YtggplgmjonnliaaGreatDoor
open Go.RowKit

namespace Ms
section
variable {E : Int → Option Addr} {W w : World} {p : Nat}
theorem rd_below {w' : World} (h : w.grownBy w' (some p)) {B : Nat} (hB : B ≤ w.heap.size) (hp : B ≤ p) : Below B w w' := (Below.refl B w).grown h hB (fun k hk => by cases hk; exact hp)
theorem set_new {V V' : World} {row : Option Nat} (hg : V.grownBy V' row) {q : Addr} (hq : V.heap.size ≤ q.block) (u : Value) : V.grownBy (V'.setCell q u) row :=
  have h := (Below.refl 0 V').setCell (Nat.zero_le q.block) u
  ⟨h.os.trans hg.os, h.tape.trans hg.tape, h.output.trans hg.output, Nat.le_trans hg.size h.size, fun k hk hne => (Below.heap_setCell V' q u k (by omega)).trans (hg.block k hk hne)⟩
theorem takeNumber_in (hE : RdErrs W E) (hb : Below W.heap.size W w) (hp : W.heap.size ≤ p) {n : Int} (hn : Ok1 n) {t : List UInt8} (hR : RdC E w p (enc (zig n) ++ t) 0) :
    Calls Tryz.prog 44 #[.pointer (some ⟨p, 0, none⟩)] w fun x w' => x = .returned (.int .i64 n) ∧ RdC E w' p t 0 ∧ w.grownBy w' (some p) := by
  have h := int_any 0 1073741824 hE hb hp hR
  rw [intSays_in hn.i64.1 hn.i64.2 (by unfold Ok1 at hn; omega) hn.2] at h
  have H := Lib.hid h
  clear h
  go_enter Tryz.func44, Tryz.ntmps44
  go_wp2_with fail
  refine H.out.mono ?_
  rintro x w1 ⟨rfl, h1, h2⟩
  have H1 := Lib.hid h1
  have H2 := Lib.hid h2
  clear h1 h2
  go_wp2
  go_ret
  exact ⟨rfl, H1.out, H2.out⟩
theorem takeOther_in (hE : RdErrs W E) (hb : Below W.heap.size W w) (hp : W.heap.size ≤ p) {n : Int} (hn : Ok1 n) {t : List UInt8} (hR : RdC E w p (enc (zig n) ++ t) 0) :
    Calls Tryz.prog 49 #[.pointer (some ⟨p, 0, none⟩)] w fun x w' => x = .returned (.int .i64 n) ∧ RdC E w' p t 0 ∧ w.grownBy w' (some p) := by
  have h := int_any (-1) 1073741824 hE hb hp hR
  rw [intSays_in hn.i64.1 hn.i64.2 (by unfold Ok1 at hn; omega) hn.2] at h
  have H := Lib.hid h
  clear h
  go_enter Tryz.func49, Tryz.ntmps49
  go_wp2_with fail
  refine H.out.mono ?_
  rintro x w1 ⟨rfl, h1, h2⟩
  have H1 := Lib.hid h1
  have H2 := Lib.hid h2
  clear h1 h2
  go_wp2
  go_ret
  exact ⟨rfl, H1.out, H2.out⟩
set_option maxRecDepth 10000 in
set_option maxHeartbeats 1600000 in
theorem takeHead_in (hE : RdErrs W E) (hb : Below W.heap.size W w) (hp : W.heap.size ≤ p) {wk : ByteArray} {inc key : Int} (hs : wk.size ≤ 24) (hi : Ok1 inc) (hk : Ok1 key) {t : List UInt8} (hR : RdC E w p (textOf wk ++ (enc (zig inc) ++ (enc (zig key) ++ t))) 0) :
    Calls Tryz.prog 19 #[.pointer (some ⟨p, 0, none⟩)] w fun x w' => x = .returned (.agg #[.string wk, .int .i64 inc, .int .i64 key]) ∧ RdC E w' p t 0 ∧ w.grownBy w' (some p) := by
  have hpl := hR.lt
  have hba : Below w.heap.size w (w.alloc (.cells #[.string ⟨#[]⟩, .int .i64 0, .int .i64 0] 25)) := bel_on (Below.refl _ _) _
  have hca := Cel.lit w #[.string ⟨#[]⟩, .int .i64 0, .int .i64 0] 25
  have h1 := text_any 24 hE (hb.trans (hba.mono hb.size)) hp (hR.below hba)
  rw [textSays_in (by omega) (by omega)] at h1
  dsimp only at h1
  rw [ba_toList] at h1
  have HT := Lib.hid h1
  have HG0 := Lib.hid (grown_alloc w (.cells #[.string ⟨#[]⟩, .int .i64 0, .int .i64 0] 25) (some p))
  have HCA := Lib.hid hca
  have HW := Lib.hid (fun (V : World) (hV : w.grownBy V (some p)) => (show Below W.heap.size W V from hb.grown hV hb.size (fun k hk => by cases hk; exact hp)))
  clear hba hca h1 hR hb
  go_enter Tryz.func19, Tryz.ntmps19
  go_upto_region 1 with (fail)
  generalize w.alloc _ = wa at *
  obtain ⟨z, hz⟩ : ∃ z, w.heap.size = z := ⟨_, rfl⟩
  rw [hz] at HCA hpl
  simp only [hz]
  have HZ := Lib.hid hz
  clear hz
  go_wp2_with fail
  refine HT.out.mono ?_
  rintro x w1 ⟨rfl, hR1, hg1⟩
  have HG1 := Lib.hid (HG0.out.trans hg1)
  have HC1 := Lib.hid (HCA.out.kept hg1 (by intro e; have := Option.some.inj e; omega))
  have HN := Lib.hid (takeNumber_in hE (HW.out _ HG1.out) hp hi hR1)
  clear hR1 hg1
  go_wp2_with fail
  refine HN.out.mono ?_
  rintro x w2 ⟨rfl, hR2, hg2⟩
  have HG2 := Lib.hid (HG1.out.trans hg2)
  have HC2 := Lib.hid (HC1.out.kept hg2 (by intro e; have := Option.some.inj e; omega))
  have HN2 := Lib.hid (takeNumber_in hE (HW.out _ HG2.out) hp hk hR2)
  clear hR2 hg2
  go_wp2_with fail
  refine HN2.out.mono ?_
  rintro x w3 ⟨rfl, hR3, hg3⟩
  have HG3 := Lib.hid (HG2.out.trans hg3)
  have HC3 := Lib.hid (HC2.out.kept hg3 (by intro e; have := Option.some.inj e; omega))
  have HR3 := Lib.hid hR3
  clear hR3 hg3
  have f0 := HC3.out.froz 0 (by simp)
  have f1 := HC3.out.froz 1 (by simp)
  have f2 := HC3.out.froz 2 (by simp)
  have a0 := HC3.out.cell 0 _ rfl
  have a1 := HC3.out.cell 1 _ rfl
  have a2 := HC3.out.cell 2 _ rfl
  have hk0 := ((HC3.out.set (i := 0) (by simp) (.string wk)).set (i := 1) (by simp) (.int .i64 inc)).set (i := 2) (by simp) (.int .i64 key)
  have hr0 := ((HR3.out.kept (grown_setCell w3 ⟨z, 0, none⟩ (.string wk)) (fun b hb e => by have := Option.some.inj e; simp only at this; omega)).kept (grown_setCell _ ⟨z, 1, none⟩ (.int .i64 inc)) (fun b hb e => by have := Option.some.inj e; simp only at this; omega)).kept (grown_setCell _ ⟨z, 2, none⟩ (.int .i64 key)) (fun b hb e => by have := Option.some.inj e; simp only at this; omega)
  have hg0 := set_new (set_new (set_new HG3.out (q := ⟨z, 0, none⟩) (by have := HZ.out; show w.heap.size ≤ z; omega) (.string wk)) (q := ⟨z, 1, none⟩) (by have := HZ.out; show w.heap.size ≤ z; omega) (.int .i64 inc)) (q := ⟨z, 2, none⟩) (by have := HZ.out; show w.heap.size ≤ z; omega) (.int .i64 key)
  have HK := Lib.hid hk0
  have HR := Lib.hid hr0
  have HG := Lib.hid hg0
  clear hk0 hr0 hg0
  go_wp2
  generalize ((w3.setCell _ _).setCell _ _).setCell _ _ = wy at *
  have j0 := HK.out.cell 0 _ rfl
  have j1 := HK.out.cell 1 _ rfl
  have j2 := HK.out.cell 2 _ rfl
  exact bodyPost_ret (v := .agg #[.string wk, .int .i64 inc, .int .i64 key]) (by simp [results, Tryz.results19, go_sem, j0, j1, j2]) rfl ⟨rfl, HR.out, HG.out⟩
end
end Ms
end Go.Proofs.YtggplgmjonnliaaGreatDoor
