/- Package message: what is amiss with the parts of a Fetch. Printed by tools/specs/message/fetch.py. -/
import Derived.Test.YtggplgmjonnliaaGreatDoorMsa
import Derived.Test.YtggplgmjonnliaaGreatDoorCel
import Derived.Test.YtggplgmjonnliaaGreatDoorSg
import Derived.Shelf.SlicesE.Index
namespace Go.Proofs.YtggplgmjonnliaaGreatDoor
open Go.RowKit

namespace Ms
def nameB (s : ByteArray) : Bool := Vr.name s.data.toList
def dupAt (l : List ByteArray) (j : Nat) : Bool := (l.take j).any fun y => (l[j]!).toList == y.toList
/-- What is amiss first, as a number. -/
def fetchNo (l : List ByteArray) (most time : Int) : Int :=
  if wi 1 6 l.length = false then 104
  else if l.all nameB = false then 106
  else if (List.range l.length).any (dupAt l) = true then 109
  else if (wi 1 5 most && wi 1 1000 time) = true then 0 else 107
theorem t_cell {w : World} {b off n B : Nat} {l : List ByteArray} (h : RowS w B 1 (some ⟨b, off, none⟩) n (l.map Value.string)) {j : Nat} (hj : j < l.length) : w.cell? ⟨b, off + j, none⟩ = some (.string l[j]!) := by
  have hl : l.length = n := by have := h.1; simpa using this
  obtain ⟨b', off', he, _, hc⟩ := h.2 (by omega)
  injection he with he
  injection he with e1 e2
  subst e1
  subst e2
  refine hc j _ ?_
  rw [List.getElem?_map, List.getElem?_eq_getElem hj, getElem!_pos l j hj]
  rfl
set_option maxHeartbeats 3200000 in
set_option maxRecDepth 10000 in
theorem fetch_any {W w : World} {E : Int → Option Addr} (wkr pn name code : ByteArray) (inc key kind most time task epoch retries : Int) (NA FA VA TA : Option Addr) (nn nc fn fc vn vc tn tc : Nat) (l : List ByteArray) (hE : MsErrs W E) (hb : Below W.heap.size W w) (hr : RowS w w.heap.size 1 TA tn (l.map Value.string)) (hs : ∀ y ∈ l, y.size ≤ 9223372036854775807) (htc : tn ≤ tc) :
    Calls Tryz.prog 60 #[.agg #[.string wkr, .int .i64 inc, .int .i64 key, .int .i64 kind, .string pn, .slice NA nn nc, .slice FA fn fc, .string name, .slice VA vn vc, .slice TA tn tc, .int .i64 most, .int .i64 time, .int .i64 task, .int .i64 epoch, .int .i64 retries, .string code]] w fun e w' => (∃ ev, e = .returned ev ∧ SeenBy E ev (fetchNo l most time)) ∧ Below w.heap.size w w' := by
  have hl : l.length = tn := by have := hr.1; simpa using this
  have HL := Lib.hid hl
  have HB0 := Lib.hid ((Below.refl w.heap.size w).alloc (Nat.le_refl _) (.cells #[.string wkr, .int .i64 inc, .int .i64 key, .int .i64 kind, .string pn, .slice NA nn nc, .slice FA fn fc, .string name, .slice VA vn vc, .slice TA tn tc, .int .i64 most, .int .i64 time, .int .i64 task, .int .i64 epoch, .int .i64 retries, .string code] 33))
  have HBW := Lib.hid (hb.trans (HB0.out.mono hb.size))
  have HRW := Lib.hid (RowS.mono (RowS.below hr HB0.out (Nat.le_refl _)) HB0.out.size)
  have HS := Lib.hid hs
  have HCA := Lib.hid (Cel.lit w #[.string wkr, .int .i64 inc, .int .i64 key, .int .i64 kind, .string pn, .slice NA nn nc, .slice FA fn fc, .string name, .slice VA vn vc, .slice TA tn tc, .int .i64 most, .int .i64 time, .int .i64 task, .int .i64 epoch, .int .i64 retries, .string code] 33)
  obtain ⟨e4, h4, g4⟩ := (hE.below HBW.out).e104
  obtain ⟨e6, h6, g6⟩ := (hE.below HBW.out).e106
  obtain ⟨e9, h9, g9⟩ := (hE.below HBW.out).e109
  unfold errV at g4 g6 g9
  have H4 := Lib.hid h4
  have H6 := Lib.hid h6
  have H9 := Lib.hid h9
  have HE := Lib.hid hE
  obtain ⟨R, hR⟩ : ∃ R, fetchNo l most time = R := ⟨_, rfl⟩
  rw [hR]
  unfold fetchNo at hR
  rw [hl] at hR
  obtain ⟨b1, h1⟩ : ∃ b, wi 1 6 tn = b := ⟨_, rfl⟩
  obtain ⟨b2, h2⟩ : ∃ b, wi 1 5 most = b := ⟨_, rfl⟩
  obtain ⟨b3, h3⟩ : ∃ b, wi 1 1000 time = b := ⟨_, rfl⟩
  have W1 := Lib.hid (fun (V : World) => within_any tn 1 6 V)
  have W2 := Lib.hid (fun (V : World) => within_any most 1 5 V)
  have W3 := Lib.hid (fun (V : World) => within64_any time 1 1000 V)
  have hb6 : b1 = true → tn ≤ 6 := fun h => by
    rw [← h1] at h
    unfold wi at h
    simp at h
    omega
  rw [h1] at W1 hR
  rw [h2] at W2 hR
  rw [h3] at W3 hR
  have HR := Lib.hid hR
  have HB6 := Lib.hid hb6
  clear hR h1 h2 h3 h4 h6 h9 hE hb hr hs hl hb6
  go_enter Tryz.func60, Tryz.ntmps60
  go_upto_region 1 with (fail)
  generalize w.alloc _ = w2 at *
  obtain ⟨za, hza⟩ : ∃ za, za = w.heap.size := ⟨_, rfl⟩
  rw [← hza] at HCA
  simp only [← hza]
  clear hza
  have ha := HCA.out
  have a9 := ha.cell 9 _ rfl
  have a10 := ha.cell 10 _ rfl
  have a11 := ha.cell 11 _ rfl
  clear ha
  cases b1 with
  | false =>
    go_wp2_with (go_at_call 33; (with_reducible refine (W1.out _).mono ?_); rintro e w3 ⟨rfl, hw⟩; subst hw)
    go_ret
    exact ⟨⟨_, rfl, by rw [← HR.out]; exact .err 104 e4 H4.out (by decide)⟩, HB0.out⟩
  | true =>
    have ht6 := HB6.out rfl
    go_wp2_with (go_at_call 33; (with_reducible refine (W1.out _).mono ?_); rintro e w3 ⟨rfl, hw⟩; subst hw)
    go_loopw [16] (fun s wr => ∃ j : Nat, s = .int .i64 j ∧ j ≤ tn ∧ (l.take j).all nameB = true ∧ w2 = wr) (fun s _ => tn - (intOf s).toNat)
    case atStart => exact ⟨0, rfl, Nat.zero_le _, rfl, rfl⟩
    case round =>
      obtain ⟨j, rfl, hj, hal, rfl⟩ := hrel
      have hj0 : (0 : Int) ≤ (j : Int) := by omega
      have HAL := Lib.hid hal
      clear hal
      by_cases hlt : j < tn
      · have hI : (j : Int) < (tn : Int) := by omega
        have hjl : j < l.length := by have := HL.out; omega
        have HLT := Lib.hid hlt
        obtain ⟨b, off, rfl, -, -⟩ := HRW.out.2 (by omega)
        have k0 := t_cell HRW.out hjl
        have hsz := HS.out l[j]! (by rw [getElem!_pos l j hjl]; exact List.getElem_mem hjl)
        have HNM := Lib.hid (fun (V : World) => name_any l[j]! V hsz)
        have HA1 := Lib.hid (fun (h : Vr.name (l[j]!).data.toList = true) => (show (l.take (j + 1)).all nameB = true by
          rw [List.take_succ_eq_append_getElem hjl, List.all_append, HAL.out, ← getElem!_pos l j hjl]
          simpa [nameB] using h))
        have HA2 := Lib.hid (fun (h : Vr.name (l[j]!).data.toList = false) => (show l.all nameB = false by
          rw [List.all_eq_false]
          exact ⟨l[j]!, by rw [getElem!_pos l j hjl]; exact List.getElem_mem hjl, by unfold nameB; rw [h]; decide⟩))
        obtain ⟨nb, hnb⟩ : ∃ nb, Vr.name (l[j]!).data.toList = nb := ⟨_, rfl⟩
        rw [hnb] at HNM HA1 HA2
        clear hnb hsz
        generalize l[j]! = y at *
        cases nb with
        | false =>
          have ho := Lib.hid (HA2.out rfl)
          go_wp2_with (go_at_call 32; (with_reducible refine (HNM.out _).mono ?_); rintro e w3 ⟨rfl, hw⟩; subst hw)
          go_ret
          exact ⟨⟨_, rfl, by rw [← HR.out, ho.out]; exact .err 106 e6 H6.out (by decide)⟩, HB0.out⟩
        | true =>
          have ho := Lib.hid (HA1.out rfl)
          go_wp2_with (go_at_call 32; (with_reducible refine (HNM.out _).mono ?_); rintro e w3 ⟨rfl, hw⟩; subst hw)
          go_roundw
          case rel => exact ⟨j + 1, by first | rfl | go_num, by have := HLT.out; omega, ho.out, by first | rfl | trivial⟩
          case measure =>
            have := HLT.out
            simp only [intOf]
            omega
      · obtain rfl : j = tn := by omega
        have hal := HAL.out
        rw [List.take_of_length_le (by have := HL.out; omega)] at hal
        have HAA := Lib.hid hal
        clear hal HAL
        go_wp2_with fail
        go_loopw [28] (fun s wr => ∃ i : Nat, s = .int .i64 i ∧ i ≤ j ∧ (List.range i).any (dupAt l) = false ∧ w2 = wr) (fun s _ => j - (intOf s).toNat)
        case atStart => exact ⟨0, rfl, Nat.zero_le _, rfl, rfl⟩
        case round =>
          obtain ⟨i, rfl, hi, hdu, rfl⟩ := hrel
          have hi0 : (0 : Int) ≤ (i : Int) := by omega
          have HDU := Lib.hid hdu
          clear hdu
          by_cases hlt2 : i < j
          · have hI : (i : Int) < (j : Int) := by omega
            have hil : i < l.length := by have := HL.out; omega
            have HLT := Lib.hid hlt2
            have hic : (i : Int) ≤ (tc : Int) := by omega
            obtain ⟨b, off, rfl, -, -⟩ := HRW.out.2 (by omega)
            have k0 := t_cell HRW.out hil
            have hct := AnyE.slices_Contains sgCt Value.string (fun x y => x.toList == y.toList) (EqlAt.string _ _) b off i tc l l[i]! w2 (by omega) (by omega) (fun k hk => t_cell HRW.out hk)
            obtain ⟨du, hdd⟩ : ∃ du, dupAt l i = du := ⟨_, rfl⟩
            rw [show ((l.take i).any fun y => (l[i]!).toList == y.toList) = du from hdd] at hct
            have HCT : Hid (Calls Tryz.prog 79 #[.slice (some ⟨b, off, none⟩) i tc, .string l[i]!] w2 fun e w' => e = .returned (.bool du) ∧ w' = w2) := Lib.hid hct
            have HD1 := Lib.hid (show (List.range (i + 1)).any (dupAt l) = du by rw [List.range_succ, List.any_append, HDU.out]; simp [hdd])
            have HD2 := Lib.hid (fun (h : du = true) => (show (List.range j).any (dupAt l) = true by
              rw [List.any_eq_true]
              exact ⟨i, List.mem_range.2 HLT.out, hdd.trans h⟩))
            clear hct hdd
            generalize l[i]! = y at *
            cases du with
            | true =>
              have ho := Lib.hid (HD2.out rfl)
              go_wp2_with (go_at_call 79; (with_reducible refine HCT.out.mono ?_); rintro e w3 ⟨rfl, hw⟩; subst hw)
              go_ret
              exact ⟨⟨_, rfl, by rw [← HR.out, HAA.out, ho.out]; exact .err 109 e9 H9.out (by decide)⟩, HB0.out⟩
            | false =>
              go_wp2_with (go_at_call 79; (with_reducible refine HCT.out.mono ?_); rintro e w3 ⟨rfl, hw⟩; subst hw)
              go_roundw
              case rel => exact ⟨i + 1, by first | rfl | go_num, by have := HLT.out; omega, HD1.out, by first | rfl | trivial⟩
              case measure =>
                have := HLT.out
                simp only [intOf]
                omega
          · obtain rfl : i = j := by omega
            have hr := HR.out
            rw [HAA.out, HDU.out] at hr
            have HR2 := Lib.hid hr
            clear hr
            cases b2 with
            | false =>
              go_wp2_with (first | (go_at_call 33; (with_reducible refine (W2.out _).mono ?_); rintro e w3 ⟨rfl, hw⟩; subst hw) | (go_at_call 80; (with_reducible refine (W3.out _).mono ?_); rintro e w3 ⟨rfl, hw⟩; subst hw) | (go_at_call 61; refine (rangeFault_any _ HE.out HBW.out).mono ?_; rintro e w3 ⟨⟨ev, rfl, hev⟩, hw⟩; subst hw))
              go_ret
              exact ⟨⟨_, rfl, by rw [← HR2.out]; simpa using hev⟩, HB0.out⟩
            | true =>
              go_wp2_with (first | (go_at_call 33; (with_reducible refine (W2.out _).mono ?_); rintro e w3 ⟨rfl, hw⟩; subst hw) | (go_at_call 80; (with_reducible refine (W3.out _).mono ?_); rintro e w3 ⟨rfl, hw⟩; subst hw) | (go_at_call 61; refine (rangeFault_any _ HE.out HBW.out).mono ?_; rintro e w3 ⟨⟨ev, rfl, hev⟩, hw⟩; subst hw))
              go_ret
              exact ⟨⟨_, rfl, by rw [← HR2.out]; simpa using hev⟩, HB0.out⟩
end Ms
end Go.Proofs.YtggplgmjonnliaaGreatDoor
