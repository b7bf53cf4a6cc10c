/- QueueWaits: the walk. -/
import Derived.Test.YtlcchjpelfjheaaLt
import Derived.Test.YtlcchjpelfjheaaLv
import Derived.Test.YtlcchjpelfjheaaLw
namespace Go.Proofs.Ytlcchjpelfjheaa
open Go.RowKit

namespace Qu
open Ls (T)
theorem filter_lt {α : Type} {p q : α → Bool} : ∀ {l : List α}, (∀ x ∈ l, p x = true → q x = true) → (∃ x ∈ l, q x = true ∧ p x = false) → (l.filter p).length < (l.filter q).length
  | [], _, h => by obtain ⟨x, hx, _⟩ := h; cases hx
  | y :: r, h1, h2 => by
    have h3 : (r.filter p).length ≤ (r.filter q).length := by
      have := filter_le (p := p) (q := q) (l := r) (fun x hx => h1 x (List.mem_cons_of_mem _ hx))
      exact this
    obtain ⟨x, hx, h4, h5⟩ := h2
    rw [List.filter_cons, List.filter_cons]
    rcases List.mem_cons.1 hx with rfl | hx
    · rw [h4, h5]
      simp
      omega
    · have h6 := filter_lt (fun x hx => h1 x (List.mem_cons_of_mem _ hx)) ⟨x, hx, h4, h5⟩
      have h7 := h1 y List.mem_cons_self
      cases hp : p y
      · cases hq : q y <;> simp <;> omega
      · rw [h7 hp]
        simp
        omega
where
  filter_le {α : Type} {p q : α → Bool} : ∀ {l : List α}, (∀ x ∈ l, p x = true → q x = true) → (l.filter p).length ≤ (l.filter q).length
    | [], _ => Nat.le_refl _
    | y :: r, h => by
      have h3 := filter_le (p := p) (q := q) (l := r) (fun x hx => h x (List.mem_cons_of_mem _ hx))
      have h7 := h y List.mem_cons_self
      rw [List.filter_cons, List.filter_cons]
      cases hp : p y
      · cases hq : q y <;> simp <;> omega
      · rw [h7 hp]
        simp
        omega
theorem cand_same {L : List T} {now t : Int} {ts : List ByteArray} (h1 : now ≤ t) (h : ∀ x ∈ L.filter (fun x => asks ts x.top), x.avail = true → ¬ (now < x.due ∧ x.due ≤ t)) : cand L t ts = cand L now ts := by
  unfold cand
  refine List.filter_congr fun x hx => ?_
  cases ha : asks ts x.top with
  | false => rfl
  | true =>
    have h2 := h x (List.mem_filter.2 ⟨hx, ha⟩)
    unfold T.free
    cases hv : x.avail with
    | false => rfl
    | true =>
      have h3 := h2 hv
      rw [Bool.true_and, Bool.true_and, Bool.true_and, Bool.true_and, decide_eq_decide]
      omega
theorem cand_more {L : List T} {now t : Int} {ts : List ByteArray} (h1 : now < t) (h : ∃ x ∈ L.filter (fun x => asks ts x.top), x.avail = true ∧ now < x.due ∧ x.due = t) : (cand L now ts).length < (cand L t ts).length := by
  obtain ⟨x, hx, h2, h3, h4⟩ := h
  obtain ⟨h5, h6⟩ := List.mem_filter.1 hx
  unfold cand
  refine filter_lt (fun y _ hy => ?_) ⟨x, h5, ?_, ?_⟩
  · rw [Bool.and_eq_true] at *
    unfold T.free at *
    rw [Bool.and_eq_true, decide_eq_true_iff] at *
    exact ⟨hy.1, hy.2.1, by omega⟩
  · unfold T.free
    rw [h2, decide_eq_true (show x.due ≤ t by omega)]
    simpa using h6
  · unfold T.free
    rw [h2, decide_eq_false (show ¬ x.due ≤ now by omega), Bool.and_false, Bool.and_false]
def AllOk (L : List T) : Prop := ∀ x ∈ L, MadeOk x
theorem AllOk.ins {L : List T} (h : AllOk L) (ha : Asc L) {x : T} (hx : MadeOk x) : AllOk (ins x L) := fun y hy => by
  rcases (mem_ins ha).1 hy with rfl | ⟨hy, _⟩
  · exact hx
  · exact h y hy
theorem cand_len (L : List T) (now : Int) (ts : List ByteArray) : (cand L now ts).length ≤ L.length := List.length_filter_le _ _
/-- One that is made is put, as an open region does it. -/
theorem put_made {B q : Nat} {L : List T} {x : T} (w : World) (hx : MadeOk x) (hq : QAt B w q L) (hB : B ≤ w.heap.size) (hl : L.length ≤ 1000) :
    Calls Try.prog 11 #[.pointer (some ⟨q, 0, none⟩), .slice (some ⟨w.heap.size, 0, none⟩) 1 1] (w.alloc (.cells x.cells.toArray 38)) fun e w' => e = .returned (.tuple #[]) ∧ QAt B w' q (ins x L) ∧ Below B w w' :=
  put1_at x w hq hB (by have := hx.id1; omega) (by have := hx.id2; omega) (by rw [hx.top]; decide) hl
end Qu
open Qu
open Ls (T)
set_option maxRecDepth 100000 in
set_option maxHeartbeats 6400000 in
theorem queueWaits_walk (A1 : Option Addr) (n1 c1 : Nat) (l1 : List Int) (A2 : Option Addr) (n2 c2 : Nat) (l2 : List Int) (now which : Int) (w : World) (hin1 : InRow w 1 A1 n1 c1 (l1.map (Value.int .i64))) (hbd1 : ∀ y ∈ l1, -9223372036854775808 ≤ y ∧ y ≤ 9223372036854775807)
    (hin2 : InRow w 1 A2 n2 c2 (l2.map (Value.int .i64))) (hbd2 : ∀ y ∈ l2, -9223372036854775808 ≤ y ∧ y ≤ 9223372036854775807) (_ : -9223372036854775808 ≤ now) (_ : now ≤ 9223372036854775807) (_ : -9223372036854775808 ≤ which) (_ : which ≤ 9223372036854775807) :
    Calls Try.prog 5 #[.slice A1 n1 c1, .slice A2 n2 c2, .int .i64 now, .int .i64 which] w fun e w' => e = .returned (.bool true) ∧ Below w.heap.size w w' := by
  have r1 : KRow nκ w w.heap.size A1 n1 l1 := nrow hin1.row
  have r2 : KRow nκ w w.heap.size A2 n2 l2 := nrow hin2.row
  have hmost1 := hin1.most
  have hcap1 := hin1.cap
  have hmost2 := hin2.most
  have hcap2 := hin2.cap
  unfold maxLen at hmost1 hmost2
  have HF := Lib.hid (first_any w)
  have HR1 := Lib.hid r1
  have HR2 := Lib.hid r2
  have HBD1 := Lib.hid hbd1
  have HBD2 := Lib.hid hbd2
  have hnb1 : (n1 : Int) ≤ 9223372036854775807 := by omega
  have hnb2 : (n2 : Int) ≤ 9223372036854775807 := by omega
  have HL1 := Lib.hid (r1.len (by decide))
  have HL2 := Lib.hid (r2.len (by decide))
  have N1 := Lib.hid (fun w => num_fn now 40 w (by decide) (by decide))
  have e1 : 0 ≤ now % 40 ∧ now % 40 < 40 := ⟨Int.emod_nonneg now (by decide), Int.emod_lt_of_pos now (by decide)⟩
  generalize now % 40 = t at *
  clear hin1 hin2 hbd1 hbd2 r1 r2 hmost1 hcap1 hmost2 hcap2
  by_cases hok : n1 ≤ 20 ∧ n1 ≤ n2
  · obtain ⟨h20, h12⟩ := hok
    have hI : ¬ (20 : Int) < (n1 : Int) := by omega
    have hI2 : ¬ (n2 : Int) < (n1 : Int) := by omega
    go_enter Try.func5, Try.ntmps5
    go_wp2_with fail
    refine HF.out.mono ?_
    rintro e w1 ⟨rfl, hb1⟩
    have HB1 := Lib.hid hb1
    have hs1 := hb1.size
    clear hb1 HF
    go_wp2_with fail
    refine (N1.out _).mono ?_
    rintro e wy ⟨rfl, rfl⟩
    clear N1
    have HQ := Lib.hid (QAt.start hs1 26)
    have HBQ := Lib.hid (HB1.out.trans (((Below.refl wy.heap.size wy).alloc (Nat.le_refl _) (.cells #[.map none] 26)).mono hs1))
    go_wp2_with fail
    go_loopw [11] (fun s11 wr => ∃ (j : Nat) (L : List T), s11 = .int .i64 j ∧ j ≤ n1 ∧ L.length ≤ j ∧ AllOk L ∧ QAt w.heap.size wr wy.heap.size L ∧ Below w.heap.size w wr) (fun s11 _ => n1 - (intOf s11).toNat)
    case atStart => exact ⟨0, [], rfl, Nat.zero_le _, Nat.le_refl _, fun _ h => (by cases h), HQ.out, HBQ.out⟩
    case round =>
      obtain ⟨j, L, rfl, hj, hLj, hall, hq, hb⟩ := hrel
      have HALL := Lib.hid hall
      have HQR := Lib.hid hq
      have HBR := Lib.hid hb
      have hj0 : (0 : Int) ≤ (j : Int) := by omega
      have hLl : L.length ≤ 1000 := by omega
      have hsr := hb.size
      clear hall hq hb HQ HBQ
      by_cases hlt : j < n1
      · have hlI : (j : Int) < (n1 : Int) := by omega
        have hlI2 : (j : Int) < (n2 : Int) := by omega
        have hd : Below wr.heap.size wr wr.drew := (Below.refl _ _).drew
        have HBD := Lib.hid (HBR.out.trans (hd.mono hsr))
        have HQD := Lib.hid (HQR.out.below hd)
        obtain ⟨bz, oz, rfl, hbz, _⟩ := (HR1.out.below HBD.out (Nat.le_refl _)).2 (by omega)
        obtain ⟨by_, oy, rfl, hby, _⟩ := (HR2.out.below HBD.out (Nat.le_refl _)).2 (by omega)
        have c1 := n_at (HR1.out.below HBD.out (Nat.le_refl _)) hlt
        have c2 := n_at (HR2.out.below HBD.out (Nat.le_refl _)) (j := j) (by omega)
        have y1 := HBD1.out l1[j]! (by rw [getElem!_pos l1 j (by rw [HL1.out]; exact hlt)]; exact List.getElem_mem _)
        have y2 := HBD2.out l2[j]! (by rw [getElem!_pos l2 j (by rw [HL2.out]; omega)]; exact List.getElem_mem _)
        generalize l1[j]! = v1 at *
        generalize l2[j]! = v2 at *
        have HM := Lib.hid (fun w => made_any v1 v2 w y1.1 y1.2 y2.1 y2.2)
        have HOK := Lib.hid (mkx_ok v1 v2)
        generalize mkx v1 v2 = x at *
        have HI := Lib.hid (HALL.out.ins HQR.out.asc HOK.out)
        have hil := (len_ins (x := x) L).2
        unfold T.val at HM
        clear y1 y2 hd
        go_wp2_with fail
        go_region_held3 (fun w' => w'.cell? ⟨bz, oz + j, none⟩ = some (.int .i64 v1) ∧ w'.cell? ⟨by_, oy + j, none⟩ = some (.int .i64 v2)) (first | exact ⟨c1z, c2z⟩ | exact ⟨c1y, c2y⟩ | exact ⟨c1x, c2x⟩ | exact ⟨c1, c2⟩) (first
          | (go_at_call 12; refine (HM.out _).mono ?_; rintro e w2 ⟨rfl, hb2⟩; have HB2 := Lib.hid (HBD.out.trans (hb2.mono hsr)); have HP := Lib.hid (put_made w2 HOK.out (HQD.out.below hb2) HB2.out.size hLl); unfold T.cells at HP; have c1x := (hb2.cell (p := ⟨bz, oz + j, none⟩) (Nat.lt_of_lt_of_le hbz hsr)).trans c1; have c2x := (hb2.cell (p := ⟨by_, oy + j, none⟩) (Nat.lt_of_lt_of_le hby hsr)).trans c2; have hba : Below w2.heap.size w2 (w2.alloc (.cells x.cells.toArray 38)) := (Below.refl _ _).alloc (Nat.le_refl _) _; unfold T.cells at hba; have c1y := (hba.cell (p := ⟨bz, oz + j, none⟩) (by have := HB2.out.size; show bz < _; omega)).trans c1x; have c2y := (hba.cell (p := ⟨by_, oy + j, none⟩) (by have := HB2.out.size; show by_ < _; omega)).trans c2x; clear hba)
          | (go_at_call 11; refine HP.out.mono ?_; rintro e w3 ⟨rfl, hq3, hb3⟩; have c1z := (hb3.cell (p := ⟨bz, oz + j, none⟩) hbz).trans c1x; have c2z := (hb3.cell (p := ⟨by_, oy + j, none⟩) hby).trans c2x))
        go_wp2
        go_roundw
        case rel => exact ⟨j + 1, _, by go_num, by omega, by omega, HI.out, hq3, HB2.out.trans hb3⟩
        case measure =>
          simp only [intOf]
          omega
      · obtain rfl : j = n1 := by omega
        have hlI : ¬ (j : Int) < (j : Int) := by omega
        obtain ⟨hqb, m, hqc, _⟩ := HQR.out
        clear hqb
        go_wp2_with fail
        refine (topics_any which wr).mono ?_
        rintro e w2 ⟨⟨A, k, c, rfl, hown⟩, hb2⟩
        have hrow := hown.row
        have hts := tf_size which
        have htl : k ≤ 100000 := by
          rw [← hrow.len (by decide)]
          have := (tf_ok which).2
          omega
        generalize tf which 3 = ts at *
        have HB2 := Lib.hid (HBR.out.trans (hb2.mono hsr))
        have HQ2 := Lib.hid (hqc.below hb2)
        have HROW := Lib.hid hrow
        have HTS := Lib.hid hts
        have hLc : L.length ≤ 100000 := by omega
        clear hown hrow hts hb2 hqc HQR HBR
        have HP1 := Lib.hid (pick_any wy.heap.size m L t 100 A k c ts w2 HQ2.out HROW.out HTS.out htl hLc)
        go_wp2_with fail
        refine HP1.out.mono ?_
        rintro e w3 ⟨⟨A3, k3, c3, r3, rfl, hp3, hr3, _⟩, hb3⟩
        have hk3 : k3 = (cand L t ts).length := by
          have h1 := cand_len L t ts
          have h2 := hp3.len
          rw [← hr3.len (by decide), h2]
          show min 100 _ = _
          omega
        have HB3 := Lib.hid (HB2.out.trans (hb3.mono HB2.out.size))
        have HQ3 := Lib.hid (HQ2.out.below hb3)
        have HROW3 := Lib.hid ((HROW.out.below hb3 (Nat.le_refl _)).mono hb3.size)
        clear hp3 hr3 hb3 HP1
        have HS1 := Lib.hid (soon_any wy.heap.size m L t A k c ts w3 HQ3.out HROW3.out HTS.out htl hLc)
        go_wp2_with fail
        refine HS1.out.mono ?_
        rintro e w4 ⟨⟨v, is, rfl, hso⟩, hb4⟩
        have HB4 := Lib.hid (HB3.out.trans (hb4.mono HB3.out.size))
        have HQ4 := Lib.hid (HQ3.out.below hb4)
        have HROW4 := Lib.hid ((HROW3.out.below hb4 (Nat.le_refl _)).mono hb4.size)
        clear hb4 HS1 HQ2 HQ3 HROW HROW3 HB2 HB3
        cases is with
        | false =>
          have hcs : cand L (t + 1000) ts = cand L t ts := cand_same (by omega) (fun x hx h1 h2 => by
            have := (hso.all_ x hx h1 h2.1).1
            cases this)
          clear hso
          have HP2 := Lib.hid (pick_any wy.heap.size m L (t + 1000) 100 A k c ts w4 HQ4.out HROW4.out HTS.out htl hLc)
          go_wp2_with fail
          refine HP2.out.mono ?_
          rintro e w5 ⟨⟨A5, k5, c5, r5, rfl, hp5, hr5, _⟩, hb5⟩
          obtain rfl : k3 = k5 := by
            have h1 := cand_len L t ts
            have h2 := hp5.len
            rw [hcs] at h2
            rw [← hr5.len (by decide), h2, hk3]
            show _ = min 100 _
            omega
          have HB5 := Lib.hid (HB4.out.trans (hb5.mono HB4.out.size))
          clear hp5 hr5 hb5 HP2
          go_wp2
          go_ret
          exact ⟨rfl, HB5.out⟩
        | true =>
          obtain ⟨x, hx, hx1, hx2, hx3⟩ := hso.some_ rfl
          have hok := HALL.out x (List.mem_filter.1 hx).1
          have hv30 : v ≤ 30 := by
            rw [← hx3]
            unfold T.due
            have h1 := hok.exp2
            have h2 := hok.aft2
            split <;> omega
          have hcs : cand L (v - 1) ts = cand L t ts := cand_same (by omega) (fun y hy h1 h2 => by
            have := (hso.all_ y hy h1 h2.1).2
            omega)
          have hcm : (cand L t ts).length < (cand L v ts).length := cand_more (by omega) ⟨x, hx, hx1, hx2, hx3⟩
          have htv : t < v := by omega
          clear hso hx hx1 hx2 hx3 hok
          have HP2 := Lib.hid (pick_any wy.heap.size m L (v - 1) 100 A k c ts w4 HQ4.out HROW4.out HTS.out htl hLc)
          go_wp2_with fail
          refine HP2.out.mono ?_
          rintro e w5 ⟨⟨A5, k5, c5, r5, rfl, hp5, hr5, _⟩, hb5⟩
          obtain rfl : k3 = k5 := by
            have h1 := cand_len L t ts
            have h2 := hp5.len
            rw [hcs] at h2
            rw [← hr5.len (by decide), h2, hk3]
            show _ = min 100 _
            omega
          have HB5 := Lib.hid (HB4.out.trans (hb5.mono HB4.out.size))
          have HQ5 := Lib.hid (HQ4.out.below hb5)
          have HROW5 := Lib.hid ((HROW4.out.below hb5 (Nat.le_refl _)).mono hb5.size)
          clear hp5 hr5 hb5 HP2
          have HP3 := Lib.hid (pick_any wy.heap.size m L v 100 A k c ts w5 HQ5.out HROW5.out HTS.out htl hLc)
          go_wp2_with fail
          refine HP3.out.mono ?_
          rintro e w6 ⟨⟨A6, k6, c6, r6, rfl, hp6, hr6, _⟩, hb6⟩
          have hk6 : k3 < k6 := by
            have h1 := cand_len L v ts
            have h2 := hp6.len
            rw [← hr6.len (by decide), h2, hk3]
            show _ < min 100 _
            omega
          have hk6I : (k3 : Int) < (k6 : Int) := by omega
          have HB6 := Lib.hid (HB5.out.trans (hb6.mono HB5.out.size))
          clear hp6 hr6 hb6 HP3
          go_wp2
          go_ret
          exact ⟨by simp; omega, HB6.out⟩
  · by_cases h20 : 20 < n1
    · have hI : (20 : Int) < (n1 : Int) := by omega
      go_enter Try.func5, Try.ntmps5
      go_wp2_with fail
      refine HF.out.mono ?_
      rintro e w1 ⟨rfl, hb1⟩
      go_wp2
      go_ret
      exact ⟨rfl, hb1⟩
    · have hI : ¬ (20 : Int) < (n1 : Int) := by omega
      have hI2 : (n2 : Int) < (n1 : Int) := by omega
      go_enter Try.func5, Try.ntmps5
      go_wp2_with fail
      refine HF.out.mono ?_
      rintro e w1 ⟨rfl, hb1⟩
      go_wp2
      go_ret
      exact ⟨rfl, hb1⟩
end Go.Proofs.Ytlcchjpelfjheaa
