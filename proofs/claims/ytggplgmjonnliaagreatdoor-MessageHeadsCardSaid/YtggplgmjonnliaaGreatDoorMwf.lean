/- Package message: Read of an Unlock. Printed by tools/specs/message/heads.py. -/
import Derived.Test.YtggplgmjonnliaaGreatDoorMwe
import Derived.Deep.MidRow
namespace Go.Proofs.YtggplgmjonnliaaGreatDoor
open Go.RowKit

namespace Ms
theorem cel_range {w : World} {q : Nat} {cs : List Value} (h : Cel w q cs) : w.rangeAt q 0 cs := fun j v hv => by
  rw [Nat.zero_add]
  exact h.cell j v hv
theorem cel_there {w : World} {q : Nat} {cs : List Value} (h : Cel w q cs) (n : Nat) (hn : n ≤ cs.length) : w.there q 0 n := fun j hj => by
  rw [Nat.zero_add]
  exact ⟨by rw [h.cell j _ (List.getElem?_eq_getElem (by omega))]; rfl, h.froz j (by omega)⟩
theorem below_cells {w : World} {b g : Nat} : ∀ {w' : World}, Below b w w' → b ≤ g → ∀ (o : Nat) (vs : List Value), Below b w (w'.setCells g o vs)
  | _, h, _, _, [] => h
  | _, h, hg, o, v :: r => below_cells (h.setCell (p := ⟨g, o, none⟩) hg v) hg (o + 1) r
theorem req_one (wk : ByteArray) (inc key task : Int) : (#[.string wk, .int .i64 inc, .int .i64 key, .int .i64 5, .string ⟨#[]⟩, .slice none 0 0, .slice none 0 0, .string ⟨#[]⟩, .slice none 0 0, .slice none 0 0, .int .i64 0, .int .i64 0, .int .i64 task, .int .i64 3, .int .i64 0, .string ⟨#[]⟩] : Array Value).all (·.oneCell') = true := by
  refine all_oneCell_toArray (cs := [.string wk, .int .i64 inc, .int .i64 key, .int .i64 5, .string ⟨#[]⟩, .slice none 0 0, .slice none 0 0, .string ⟨#[]⟩, .slice none 0 0, .slice none 0 0, .int .i64 0, .int .i64 0, .int .i64 task, .int .i64 3, .int .i64 0, .string ⟨#[]⟩]) (fun v hv => ?_)
  simp only [List.mem_cons, List.not_mem_nil, or_false] at hv
  rcases hv with rfl | rfl | rfl | rfl | rfl | rfl | rfl | rfl | rfl | rfl | rfl | rfl | rfl | rfl | rfl | rfl <;> rfl
theorem req_size : (Tryz.prog.info? 33).map (·.size) = some 16 := by kernel_rfl
theorem cel_under {w w' : World} {q B : Nat} {cs : List Value} (h : Cel w q cs) (hb : Below B w w') (hq : q < B) : Cel w' q cs := by
  have hbl := hb.block q hq
  exact ⟨fun i v hi => (World.cell?_of_block (a := ⟨q, i, none⟩) hbl).trans (h.cell i v hi), fun i hi => (World.frozen?_of_block (a := ⟨q, i, none⟩) hbl).trans (h.froz i hi), Nat.lt_of_lt_of_le h.lt hb.size⟩
theorem unl_flat (wk : ByteArray) (inc key task : Int) : unl wk inc key task = textOf wk ++ (enc (zig inc) ++ (enc (zig key) ++ (enc (zig 5) ++ (enc (zig task) ++ (enc (zig 3) ++ []))))) := by
  simp [unl, encs]
theorem rdErrs16 {W : World} {ads : List Addr} (hE : Errs W 224 sents ads) : RdErrs W (eMap ads) where
  e101 := errIn_of hE 101 0 _ rfl rfl
  e102 := errIn_of hE 102 1 _ rfl rfl
  e105 := errIn_of hE 105 4 _ rfl rfl
  e107 := errIn_of hE 107 6 _ rfl rfl
set_option maxRecDepth 10000 in
set_option maxHeartbeats 3200000 in
theorem read_5 {E : Int → Option Addr} {W w : World} (hE : RdErrs W E) (hM : MsErrs W E) (hb : Below W.heap.size W w) (A : Option Addr) (n c : Nat) {wk : ByteArray} {inc key task : Int} (hr : Bytes w w.heap.size A n (unl wk inc key task)) (hA : A = none → n = 0 ∧ c = 0) (hn : n ≤ 100000) (hs : wk.size ≤ 24) (hw : Vr.name wk.data.toList = true) (hi : Ok1 inc) (hk : Ok1 key) (ht : Ok1 task) :
    Calls Tryz.prog 8 #[.slice A n c] w fun e w' => e = .returned (.tuple #[.agg #[.string wk, .int .i64 inc, .int .i64 key, .int .i64 5, .string ⟨#[]⟩, .slice none 0 0, .slice none 0 0, .string ⟨#[]⟩, .slice none 0 0, .slice none 0 0, .int .i64 0, .int .i64 0, .int .i64 task, .int .i64 3, .int .i64 0, .string ⟨#[]⟩], .nilIface]) ∧ Below w.heap.size w w' := by
  rw [unl_flat] at hr
  have hba := bel_on (Below.refl w.heap.size w) (.cells #[.string ⟨#[]⟩, .int .i64 0, .int .i64 0, .int .i64 0, .string ⟨#[]⟩, .slice none 0 0, .slice none 0 0, .string ⟨#[]⟩, .slice none 0 0, .slice none 0 0, .int .i64 0, .int .i64 0, .int .i64 0, .int .i64 0, .int .i64 0, .string ⟨#[]⟩] 33)
  have hza : Cel (w.alloc (.cells #[.string ⟨#[]⟩, .int .i64 0, .int .i64 0, .int .i64 0, .string ⟨#[]⟩, .slice none 0 0, .slice none 0 0, .string ⟨#[]⟩, .slice none 0 0, .slice none 0 0, .int .i64 0, .int .i64 0, .int .i64 0, .int .i64 0, .int .i64 0, .string ⟨#[]⟩] 33)) w.heap.size [.string ⟨#[]⟩, .int .i64 0, .int .i64 0, .int .i64 0, .string ⟨#[]⟩, .slice none 0 0, .slice none 0 0, .string ⟨#[]⟩, .slice none 0 0, .slice none 0 0, .int .i64 0, .int .i64 0, .int .i64 0, .int .i64 0, .int .i64 0, .string ⟨#[]⟩] := Cel.lit w #[.string ⟨#[]⟩, .int .i64 0, .int .i64 0, .int .i64 0, .string ⟨#[]⟩, .slice none 0 0, .slice none 0 0, .string ⟨#[]⟩, .slice none 0 0, .slice none 0 0, .int .i64 0, .int .i64 0, .int .i64 0, .int .i64 0, .int .i64 0, .string ⟨#[]⟩] 33
  have HRD := Lib.hid (read_any (E := E) A n c (by_on hba hr) hA (by omega))
  have HB0 := Lib.hid hba
  have HZA := Lib.hid hza
  have HBW := Lib.hid hb
  have HCK := Lib.hid (fun (V : World) (hV : Below w.heap.size w V) => check_5 (w := V) wk ⟨#[]⟩ ⟨#[]⟩ ⟨#[]⟩ inc key 0 0 task 3 0 none none none 0 0 0 0 0 0 hM (hb.trans (hV.mono hb.size)) (by decide) (by omega))
  rw [good5 hw hi hk ht] at HCK
  have HKD := Lib.hid (fun (V : World) => isKind_any 5 V)
  rw [show wi 1 9 5 = true from rfl] at HKD
  clear hr hba hza hb hw
  go_enter Tryz.func8, Tryz.ntmps8
  go_upto_region 1 with (fail)
  generalize w.alloc _ = wa at *
  obtain ⟨z, hz⟩ : ∃ z, w.heap.size = z := ⟨_, rfl⟩
  rw [hz] at HZA
  simp only [hz]
  have HZ := Lib.hid hz
  clear hz
  go_wp2_with fail
  refine HRD.out.mono ?_
  rintro x w1 ⟨p, rfl, hp1, hR1, hb1⟩
  have HB1 := Lib.hid (HB0.out.trans (hb1.mono HB0.out.size))
  have HZ1 := Lib.hid (HZA.out.below hb1 (Nat.le_refl _))
  have hpW : W.heap.size ≤ p := Nat.le_trans HBW.out.size (Nat.le_trans HB0.out.size hp1)
  have hpw : w.heap.size ≤ p := Nat.le_trans HB0.out.size hp1
  have hpz : z < p := by have := HZA.out.lt; omega
  have HH := Lib.hid (takeHead_in hE (HBW.out.trans (HB1.out.mono HBW.out.size)) hpW hs hi hk hR1)
  clear hR1 hb1 hp1 HRD
  go_wp2_with fail
  refine HH.out.mono ?_
  rintro x w2 ⟨rfl, hR2, hg2⟩
  have HB2 := Lib.hid (HB1.out.trans (rd_below hg2 HB1.out.size hpw))
  have HZ2 := Lib.hid (HZ1.out.kept hg2 (by intro e; have := Option.some.inj e; omega))
  have hI := int_any 0 100 hE (HBW.out.trans (HB2.out.mono HBW.out.size)) hpW hR2
  rw [intSays_in (by decide) (by decide) (by decide) (by decide)] at hI
  have HI := Lib.hid hI
  clear hI hR2 hg2 HH
  go_wp2_with fail
  refine HI.out.mono ?_
  rintro x w3 ⟨rfl, hR3, hg3⟩
  have HB3 := Lib.hid (HB2.out.trans (rd_below hg3 HB2.out.size hpw))
  have HZ3 := Lib.hid (HZ2.out.kept hg3 (by intro e; have := Option.some.inj e; omega))
  have hpl := hR3.lt
  have hb4 : Below w3.heap.size w3 (w3.alloc (.cells #[.string wk, .int .i64 inc, .int .i64 key, .int .i64 5, .string ⟨#[]⟩, .slice none 0 0, .slice none 0 0, .string ⟨#[]⟩, .slice none 0 0, .slice none 0 0, .int .i64 0, .int .i64 0, .int .i64 0, .int .i64 0, .int .i64 0, .string ⟨#[]⟩] 33)) := bel_on (Below.refl _ _) _
  have hc4 : Cel (w3.alloc (.cells #[.string wk, .int .i64 inc, .int .i64 key, .int .i64 5, .string ⟨#[]⟩, .slice none 0 0, .slice none 0 0, .string ⟨#[]⟩, .slice none 0 0, .slice none 0 0, .int .i64 0, .int .i64 0, .int .i64 0, .int .i64 0, .int .i64 0, .string ⟨#[]⟩] 33)) w3.heap.size [.string wk, .int .i64 inc, .int .i64 key, .int .i64 5, .string ⟨#[]⟩, .slice none 0 0, .slice none 0 0, .string ⟨#[]⟩, .slice none 0 0, .slice none 0 0, .int .i64 0, .int .i64 0, .int .i64 0, .int .i64 0, .int .i64 0, .string ⟨#[]⟩] := Cel.lit w3 #[.string wk, .int .i64 inc, .int .i64 key, .int .i64 5, .string ⟨#[]⟩, .slice none 0 0, .slice none 0 0, .string ⟨#[]⟩, .slice none 0 0, .slice none 0 0, .int .i64 0, .int .i64 0, .int .i64 0, .int .i64 0, .int .i64 0, .string ⟨#[]⟩] 33
  have HB4 := Lib.hid (HB3.out.trans (hb4.mono HB3.out.size))
  have HTP := Lib.hid (takeParts_5 (B := p) hE (HBW.out.trans (HB4.out.mono HBW.out.size)) hpW ht (hR3.below hb4) hc4 hpl (Nat.le_refl _))
  have HZ4 := Lib.hid (HZ3.out.below hb4 (Nat.le_refl _))
  have HPL := Lib.hid hpl
  clear hb4 hc4 hg3 hR3 hpl HI
  go_upto_region 3 with (fail)
  generalize w3.alloc _ = w4 at *
  obtain ⟨q, hq⟩ : ∃ q, w3.heap.size = q := ⟨_, rfl⟩
  rw [hq] at HTP HPL
  simp only [hq]
  have HQ := Lib.hid hq
  clear hq
  go_wp2_with fail
  refine HTP.out.mono ?_
  rintro x w5 ⟨rfl, hR5, hc5, hb5⟩
  have HB5 := Lib.hid (HB4.out.trans (hb5.mono hpw))
  have HER := Lib.hid (err_any hR5)
  have hlf := left_any hR5
  rw [List.length_nil] at hlf
  have HLF := Lib.hid hlf
  have HC5 := Lib.hid hc5
  have HZ5 : Hid (Cel w5 z [.string ⟨#[]⟩, .int .i64 0, .int .i64 0, .int .i64 0, .string ⟨#[]⟩, .slice none 0 0, .slice none 0 0, .string ⟨#[]⟩, .slice none 0 0, .slice none 0 0, .int .i64 0, .int .i64 0, .int .i64 0, .int .i64 0, .int .i64 0, .string ⟨#[]⟩]) := cel_under HZ4.out hb5 hpz
  have a3 := hc5.cell 3 _ rfl
  clear hR5 hc5 hb5 hlf HTP
  go_wp2_with (first
    | (refine wpList_load_mid rfl 33 (.tmp 5) rfl q 0 rfl [.string wk, .int .i64 inc, .int .i64 key, .int .i64 5, .string ⟨#[]⟩, .slice none 0 0, .slice none 0 0, .string ⟨#[]⟩, .slice none 0 0, .slice none 0 0, .int .i64 0, .int .i64 0, .int .i64 task, .int .i64 3, .int .i64 0, .string ⟨#[]⟩] _ (cel_range (by first | exact HC6.out | exact HC5.out)) Tryz.underlying33 rfl req_size ?_)
    | (refine wpList_store_mid rfl 33 (.tmp 2) (.tmp 38) rfl z 0 #[.string wk, .int .i64 inc, .int .i64 key, .int .i64 5, .string ⟨#[]⟩, .slice none 0 0, .slice none 0 0, .string ⟨#[]⟩, .slice none 0 0, .slice none 0 0, .int .i64 0, .int .i64 0, .int .i64 task, .int .i64 3, .int .i64 0, .string ⟨#[]⟩] rfl rfl (cel_there HZ6.out 16 (by decide)) req_size (req_one wk inc key task) ?_; have HK := Lib.hid (World.rangeAt_setCells_same _ z 0 [.string wk, .int .i64 inc, .int .i64 key, .int .i64 5, .string ⟨#[]⟩, .slice none 0 0, .slice none 0 0, .string ⟨#[]⟩, .slice none 0 0, .slice none 0 0, .int .i64 0, .int .i64 0, .int .i64 task, .int .i64 3, .int .i64 0, .string ⟨#[]⟩] (cel_there HZ6.out 16 (by decide))); have HBF := Lib.hid (below_cells HB6.out (show w.heap.size ≤ z from Nat.le_of_eq HZ.out) 0 [.string wk, .int .i64 inc, .int .i64 key, .int .i64 5, .string ⟨#[]⟩, .slice none 0 0, .slice none 0 0, .string ⟨#[]⟩, .slice none 0 0, .slice none 0 0, .int .i64 0, .int .i64 0, .int .i64 task, .int .i64 3, .int .i64 0, .string ⟨#[]⟩]))
    | (go_at_call 22; (with_reducible refine HER.out.mono ?_); rintro x w5' ⟨⟨ev, rfl, hev⟩, hw5⟩; subst hw5; obtain rfl := seen_zero hev; clear hev)
    | (go_at_call 23; (with_reducible refine (HKD.out _).mono ?_); rintro x w5' ⟨rfl, hw5⟩; subst hw5)
    | (go_at_call 24; (with_reducible refine HLF.out.mono ?_); rintro x w5' ⟨rfl, hw5⟩; subst hw5)
    | (go_at_call 13; (with_reducible refine (HCK.out _ HB5.out).mono ?_); rintro x w6 ⟨⟨ev, rfl, hev⟩, hb6⟩; obtain rfl := seen_zero hev; have HB6 := Lib.hid (HB5.out.trans (hb6.mono HB5.out.size)); have HZ6 := Lib.hid (HZ5.out.below hb6 (Nat.le_refl _)); have HC6 := Lib.hid (HC5.out.below hb6 (Nat.le_refl _)); clear hev hb6 a3))
  generalize w6.setCells z 0 _ = wy at *
  have j0 := HK.out 0 _ rfl
  have j1 := HK.out 1 _ rfl
  have j2 := HK.out 2 _ rfl
  have j3 := HK.out 3 _ rfl
  have j4 := HK.out 4 _ rfl
  have j5 := HK.out 5 _ rfl
  have j6 := HK.out 6 _ rfl
  have j7 := HK.out 7 _ rfl
  have j8 := HK.out 8 _ rfl
  have j9 := HK.out 9 _ rfl
  have j10 := HK.out 10 _ rfl
  have j11 := HK.out 11 _ rfl
  have j12 := HK.out 12 _ rfl
  have j13 := HK.out 13 _ rfl
  have j14 := HK.out 14 _ rfl
  have j15 := HK.out 15 _ rfl
  exact bodyPost_ret (v := .tuple #[.agg #[.string wk, .int .i64 inc, .int .i64 key, .int .i64 5, .string ⟨#[]⟩, .slice none 0 0, .slice none 0 0, .string ⟨#[]⟩, .slice none 0 0, .slice none 0 0, .int .i64 0, .int .i64 0, .int .i64 task, .int .i64 3, .int .i64 0, .string ⟨#[]⟩], .nilIface]) (by simp [results, Tryz.results8, go_sem, j0, j1, j2, j3, j4, j5, j6, j7, j8, j9, j10, j11, j12, j13, j14, j15]) rfl ⟨rfl, HBF.out⟩
end Ms
end Go.Proofs.YtggplgmjonnliaaGreatDoor
