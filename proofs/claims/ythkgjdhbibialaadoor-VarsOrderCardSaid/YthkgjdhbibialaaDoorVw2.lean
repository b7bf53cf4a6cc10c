/- The statement VarsOrder: its walk. -/
import Derived.Test.YthkgjdhbibialaaDoorVv
import Derived.Test.YthkgjdhbibialaaDoorVh
import Derived.Test.YthkgjdhbibialaaDoorVf
import Derived.Test.YthkgjdhbibialaaDoorVq
import Derived.Test.YthkgjdhbibialaaDoorSa
import Derived.Test.YthkgjdhbibialaaDoorVx
import Derived.Test.YthkgjdhbibialaaDoorOpen
import Derived.Deep.DeepCutAuto
import Derived.Deep.RegionWith
namespace Go.Proofs.YthkgjdhbibialaaDoor
open Go.RowKit

theorem Box.of4 {w : World} {b : Nat} {v : Vr.V} (h : Blk4 w b v) : Box w b v :=
  ⟨(h.cell 0).trans rfl, (h.cell 1).trans rfl, (h.cell 2).trans rfl, (h.cell 3).trans rfl⟩
theorem apart_nil (v : Value) : Apart (.slice none 0 0) v := fun g h => by cases h

theorem one_string (xb : UInt8) (W : World) (B : Nat) (h : W.cell? ⟨B, 0, none⟩ = some (.int .u8 (xb.toNat : Int))) : (convert 48 9 (.slice (some ⟨B, 0, none⟩) 1 1)).run Tryd.prog W = .ok (.string ⟨#[xb]⟩) W := by
  have hb : Bytes W W.heap.size (some ⟨B, 0, none⟩) 1 [xb] := ⟨rfl, fun _ => ⟨B, 0, rfl, cell_lt h, fun k v hv => by
    have hk : k < 1 := by simpa using (List.getElem?_eq_some_iff.1 hv).1
    obtain rfl : k = 0 := by omega
    simp at hv
    rw [← hv]
    exact h⟩⟩
  exact Bytes.string (P := Tryd.prog) hb (fun h => by cases h) 1 48 9 5 Tryd.underlying48 Tryd.underlying5 Tryd.underlying9

/-- A new variable lies in a block that is new since wr. -/
def VoEnd (wr wx : World) (s : Value) (v : Vr.V) : Prop := ∃ pb : Nat, s = .pointer (some ⟨pb, 0, none⟩) ∧ wr.heap.size ≤ pb ∧ Box wx pb v ∧ Below wr.heap.size wr wx
section
variable {wr wq : World} {k : Nat} {a : ByteArray} {x y : Int}
theorem vo_k1 (h : Below (wr.alloc (.cells #[.string ⟨#[]⟩, .int .i64 0, .int .i64 0, .string ⟨#[]⟩] 45)).drew.heap.size (wr.alloc (.cells #[.string ⟨#[]⟩, .int .i64 0, .int .i64 0, .string ⟨#[]⟩] 45)).drew wq) : Blk4 wq wr.heap.size default :=
  (h.block wr.heap.size (by simp)).trans (heap_alloc_new wr _)
theorem vo_k2 (h : Below ((wr.alloc (.cells #[.int .u8 y] 5)).alloc (.cells #[.string ⟨#[]⟩, .int .i64 0, .int .i64 0, .string ⟨#[]⟩] 45)).drew.heap.size ((wr.alloc (.cells #[.int .u8 y] 5)).alloc (.cells #[.string ⟨#[]⟩, .int .i64 0, .int .i64 0, .string ⟨#[]⟩] 45)).drew wq) : Blk4 wq (wr.heap.size + 1) default := by
  have h2 := heap_alloc_new (wr.alloc (.cells #[.int .u8 y] 5)) (.cells #[.string ⟨#[]⟩, .int .i64 0, .int .i64 0, .string ⟨#[]⟩] 45)
  rw [World.size_alloc] at h2
  exact (h.block (wr.heap.size + 1) (by simp)).trans h2
theorem vo_k3 (h : Below ((wr.alloc (.cells #[.string ⟨#[]⟩, .int .i64 0, .int .i64 0, .string ⟨#[]⟩] 45)).alloc (.cells #[.int .u8 y] 5)).drew.heap.size ((wr.alloc (.cells #[.string ⟨#[]⟩, .int .i64 0, .int .i64 0, .string ⟨#[]⟩] 45)).alloc (.cells #[.int .u8 y] 5)).drew wq) : Blk4 wq wr.heap.size default :=
  (h.block wr.heap.size (by simp; omega)).trans ((Below.heap_alloc _ _ _ (by simp)).trans (heap_alloc_new wr _))
theorem vo_a (ha : a = Vr.vn k) (hB : Below wr.heap.size wr wq) : VoEnd wr (wq.alloc (.cells #[.string a, .int .i64 1, .int .i64 x, .string ⟨#[]⟩] 45)) (.pointer (some ⟨wq.heap.size, 0, none⟩)) (Vr.ov k x) := by
  subst ha
  exact ⟨_, rfl, hB.size, Box.new wq (Vr.ov k x), hB.alloc hB.size _⟩
theorem vo_c (ha : a = Vr.vn k) (hB : Below wr.heap.size wr wq) : VoEnd wr ((wq.alloc (.cells #[.int .u8 y] 5)).alloc (.cells #[.string a, .int .i64 1, .int .i64 x, .string ⟨#[]⟩] 45)) (.pointer (some ⟨wq.heap.size + 1, 0, none⟩)) (Vr.ov k x) := by
  subst ha
  have h2 := Box.new (wq.alloc (.cells #[.int .u8 y] 5)) (Vr.ov k x)
  rw [World.size_alloc] at h2
  have hs := hB.size
  exact ⟨_, rfl, by omega, h2, (hB.alloc hs _).alloc (Nat.le_trans hs (by simp)) _⟩
theorem vo_d (ha : a = Vr.vn k) (hB : Below wr.heap.size wr wq) : VoEnd wr ((wq.alloc (.cells #[.string a, .int .i64 1, .int .i64 x, .string ⟨#[]⟩] 45)).alloc (.cells #[.int .u8 y] 5)) (.pointer (some ⟨wq.heap.size, 0, none⟩)) (Vr.ov k x) := by
  subst ha
  have hs := hB.size
  exact ⟨_, rfl, hs, (Box.new wq (Vr.ov k x)).below ((Below.refl _ _).alloc (Nat.le_refl _) _), (hB.alloc hs _).alloc (Nat.le_trans hs (by simp)) _⟩
theorem vo_set {b : Nat} (ha : a = Vr.vn k) (hb : wr.heap.size ≤ b) (hB : Below wr.heap.size wr wq) (hK : Blk4 wq b default) : Box ((((wq.setCell ⟨b, 0, none⟩ (.string a)).setCell ⟨b, 1, none⟩ (.int .i64 1)).setCell ⟨b, 2, none⟩ (.int .i64 x)).setCell ⟨b, 3, none⟩ (.string ⟨#[]⟩)) b (Vr.ov k x) ∧ Below wr.heap.size wr ((((wq.setCell ⟨b, 0, none⟩ (.string a)).setCell ⟨b, 1, none⟩ (.int .i64 1)).setCell ⟨b, 2, none⟩ (.int .i64 x)).setCell ⟨b, 3, none⟩ (.string ⟨#[]⟩)) := by
  subst ha
  exact ⟨Box.of4 ((((hK.set0 _).set1 _).set2 _).set3 _), (((hB.setCell hb _).setCell hb _).setCell hb _).setCell hb _⟩
theorem vo_b (ha : a = Vr.vn k) (hB : Below wr.heap.size wr wq) (hK : Blk4 wq (wr.heap.size + 1) default) : VoEnd wr ((((wq.setCell ⟨wr.heap.size + 1, 0, none⟩ (.string a)).setCell ⟨wr.heap.size + 1, 1, none⟩ (.int .i64 1)).setCell ⟨wr.heap.size + 1, 2, none⟩ (.int .i64 x)).setCell ⟨wr.heap.size + 1, 3, none⟩ (.string ⟨#[]⟩)) (.pointer (some ⟨wr.heap.size + 1, 0, none⟩)) (Vr.ov k x) :=
  ⟨_, rfl, Nat.le_succ _, vo_set ha (Nat.le_succ _) hB hK⟩
theorem vo_e (ha : a = Vr.vn k) (hB : Below wr.heap.size wr wq) (hK : Blk4 wq wr.heap.size default) : VoEnd wr ((((wq.setCell ⟨wr.heap.size, 0, none⟩ (.string a)).setCell ⟨wr.heap.size, 1, none⟩ (.int .i64 1)).setCell ⟨wr.heap.size, 2, none⟩ (.int .i64 x)).setCell ⟨wr.heap.size, 3, none⟩ (.string ⟨#[]⟩)) (.pointer (some ⟨wr.heap.size, 0, none⟩)) (Vr.ov k x) :=
  ⟨_, rfl, Nat.le_refl _, vo_set ha (Nat.le_refl _) hB hK⟩
theorem vo_f (ha : a = Vr.vn k) (hB : Below wr.heap.size wr wq) (hK : Blk4 wq wr.heap.size default) : VoEnd wr (((((wq.setCell ⟨wr.heap.size, 0, none⟩ (.string a)).setCell ⟨wr.heap.size, 1, none⟩ (.int .i64 1)).setCell ⟨wr.heap.size, 2, none⟩ (.int .i64 x)).setCell ⟨wr.heap.size, 3, none⟩ (.string ⟨#[]⟩)).alloc (.cells #[.int .u8 y] 5)) (.pointer (some ⟨wr.heap.size, 0, none⟩)) (Vr.ov k x) := by
  obtain ⟨h1, h2⟩ := vo_set (x := x) ha (Nat.le_refl _) hB hK
  exact ⟨_, rfl, Nat.le_refl _, h1.below ((Below.refl _ _).alloc (Nat.le_refl _) _), h2.alloc h2.size _⟩
end

set_option maxRecDepth 100000 in
set_option maxHeartbeats 8000000 in
theorem varsOrder_walk (A : Option Addr) (n c : Nat) (os : List Int) (nn : Int) (ads : List Addr) (w : World) (hin : InRow w 1 A n c (os.map (Value.int .i64))) (hob : ∀ y ∈ os, -9223372036854775808 ≤ y ∧ y ≤ 9223372036854775807)
    (_hn0 : -9223372036854775808 ≤ nn) (_hn1 : nn ≤ 9223372036854775807) (hE0 : Errs w 104 sents ads) :
    Calls Tryd.prog 7 #[.slice A n c, .int .i64 nn] w fun e w' => e = .returned (.bool true) ∧ Below w.heap.size w w' := by
  have hE := vaErrs16 hE0
  have r0 : Row w w.heap.size A n (os.map (Value.int .i64)) := hin.row
  have hcap := hin.cap
  have hmost := hin.most
  unfold maxLen at hmost
  have HL := Lib.hid (show os.length = n by simpa using r0.len)
  have HOB := Lib.hid hob
  clear hin hob
  have hF := vfirst_any hE (Below.refl w.heap.size w)
  by_cases h8 : 8 < n
  · have h8' : (8 : Int) < (n : Int) := by omega
    go_enter Tryd.func7, Tryd.ntmps7
    go_wp2_with fail
    refine hF.mono ?_
    rintro e w1 ⟨rfl, hb1⟩
    go_wp2
    go_ret
    exact ⟨rfl, hb1⟩
  · have h8' : ¬ (8 : Int) < (n : Int) := by omega
    go_enter Tryd.func7, Tryd.ntmps7
    go_wp2_with fail
    refine hF.mono ?_
    rintro e w1 ⟨rfl, hb1⟩
    go_wp2_with fail
    go_loopw [6, 7, 8, 9] (fun sl sr sf i wr => ∃ (j : Nat) (L R : List Vr.V) (AL : Option Addr) (nL cL : Nat) (AR : Option Addr) (cR : Nat) (f : Int), j ≤ n ∧ i = .int .i64 j ∧ sl = .slice AL nL cL ∧ sr = .slice AR j cR ∧ sf = .int .i64 f ∧ OwnVars wr w.heap.size 45 AL nL cL L ∧ OwnVars wr w.heap.size 45 AR j cR R ∧ Apart (.slice AL nL cL) (.slice AR j cR) ∧
        Hid (Vr.Good L) ∧ Hid (∀ x ∈ L, Vr.InV x) ∧ Hid (∀ x ∈ R, Vr.fault x = 0 ∧ Vr.InV x) ∧ Hid (Vr.First R f) ∧ Hid (f < 0 → L = R) ∧ nL ≤ j ∧ -1 ≤ f ∧ f ≤ 8 ∧ Below w.heap.size w wr) (fun _ _ _ i _ => n - (intOf i).toNat)
    case atStart =>
      exact ⟨0, [], [], none, 0, 0, none, 0, -1, Nat.zero_le _, rfl, rfl, rfl, rfl, World.ownsRow_nil _ _ _ _, World.ownsRow_nil _ _ _ _, apart_nil _, Vr.good_nil, (fun x h => by cases h), (fun x h => by cases h), Vr.first_nil, (fun _ => rfl), by omega, by omega, by omega, hb1⟩
    case round =>
      obtain ⟨j, L, R, AL, nL, cL, AR, cR, f, hj, rfl, rfl, rfl, rfl, hoL, hoR, hap, hG, hLI, hRI, hFi, hLR, hnL, hf0, hf1, hbw⟩ := hrel
      have HRL := Lib.hid hoR.len
      have HLL := Lib.hid hoL.len
      by_cases hjn : j < n
      · obtain ⟨b, off, rfl, hbb, hc0⟩ := (Row.below r0 hbw (Nat.le_refl _)).at_ hjn
        have hjl : j < os.length := by rw [HL.out]; exact hjn
        rw [List.getElem_map] at hc0
        generalize os[j]'hjl = y at *
        obtain ⟨k, hk7, hkk⟩ := i64_and7 y
        obtain ⟨xb, hxb⟩ : ∃ xb : UInt8, xb = UInt8.ofNat (48 + k) := ⟨_, rfl⟩
        have hxn : ((48 : Int) + (k : Int)) = (xb.toNat : Int) := by rw [hxb, UInt8.toNat_ofNat']; omega
        have hxl := xb.toNat_lt
        have HXB := Lib.hid hxb
        clear hxb
        have hj0 : (0 : Int) ≤ (j : Int) := by omega
        have hjI : (j : Int) < (n : Int) := by omega
        go_upto_region 12 with (fail)
        obtain ⟨X, hX⟩ : ∃ X, IntKind.i64.wrap (nn + (j : Int)) = X := ⟨_, rfl⟩
        have hXb : -9223372036854775808 ≤ X ∧ X ≤ 9223372036854775807 := by rw [← hX, IntKind.wrap_i64]; omega
        have hw1 : IntKind.i64.wrap (xb.toNat : Int) = (xb.toNat : Int) := by rw [IntKind.wrap_i64]; omega
        have hw2 : IntKind.u8.wrap (xb.toNat : Int) = (xb.toNat : Int) := by rw [IntKind.wrap_u8]; omega
        go_cut [11] from 34 to 78 (fun s11 wx => VoEnd wr wx s11 (Vr.ov k X))
        case first =>
          have hN := fun W => vnum_any X W
          have hcv := one_string xb
          have hvn : (⟨#[118]⟩ : ByteArray) ++ ⟨#[xb]⟩ = Vr.vn k := by rw [HXB.out]; exact Vr.vn_cat k
          have HVN := Lib.hid hvn
          clear hvn
          go_region_with (go_at_call 23; refine (hN _).mono ?_; rintro e wq ⟨rfl, hbq⟩; obtain ⟨qc, qf⟩ := bcell hbq; have hB : Below wr.heap.size wr wq := (by first | exact (Below.refl _ _).drew.trans (hbq.mono (by simp)) | exact ((Below.refl _ _).alloc (Nat.le_refl _) _).drew.trans (hbq.mono (by simp)) | exact (((Below.refl _ _).alloc (Nat.le_refl _) _).alloc (by simp) _).drew.trans (hbq.mono (by simp <;> omega))); first | (have hz : wr.heap.size + 1 < wq.heap.size := (by have := hbq.size; simp at this; omega); have hz' : wr.heap.size < wq.heap.size := (by omega); have q0 := qc wr.heap.size 0 (by simp <;> omega); have q1 := qc (wr.heap.size + 1) 0 (by simp <;> omega); simp at q0 q1) | (have hz : wr.heap.size < wq.heap.size := (by have := hbq.size; simp at this; omega)) | (have hz : wr.heap.size ≤ wq.heap.size := (by have := hbq.size; simp at this; omega)))
          all_goals
            go_wp2_with fail
            go_meet
            first
              | with_reducible exact vo_a HVN.out hB
              | with_reducible exact vo_c HVN.out hB
              | with_reducible exact vo_d HVN.out hB
              | exact vo_b HVN.out hB (vo_k2 hbq)
              | exact vo_e HVN.out hB (vo_k3 hbq)
              | exact vo_f HVN.out hB (vo_k1 hbq)
        case rest =>
          obtain ⟨pb, rfl, hpb, bx, hbx⟩ := hcut
          generalize wc = w3 at *
          have HFV := Lib.hid (Vr.ov_fault (k := k) X hk7)
          have HIV := Lib.hid (Vr.ov_in (k := k) hXb.1 hXb.2)
          obtain ⟨v, hv⟩ : ∃ v, v = Vr.ov k X := ⟨_, rfl⟩
          rw [← hv] at bx HFV HIV
          clear hv hw1 hw2 hX hXb hxn hxl HXB hkk hk7
          have hoL1 := hoL.below hbx (Nat.le_refl _)
          have hoR1 := hoR.below hbx (Nat.le_refl _)
          have hbw1 := hbw.trans (hbx.mono hbw.size)
          have HRLT := Lib.hid (show ∀ g, (Value.slice AR j cR).ownBlock = some g → g < pb from fun g e => Nat.lt_of_lt_of_le (hoR.lt g e).2 hpb)
          clear hbx hoL hoR hbw hc0 hpb
          obtain ⟨x0, x1, x2, x3⟩ := bx
          obtain ⟨Q, hQ⟩ : ∃ Q, Q = (decide (0 < j) && !(Vr.lss R[j - 1]!.name v.name) && decide (f < 0)) := ⟨_, rfl⟩
          have HF := Lib.hid (Vr.first_next HRL.out (by omega) hFi.out hf1 hQ)
          go_upto_region 13 with (fail)
          go_cut [63] from 45 to 78 (fun s63 wx => s63 = .bool Q ∧ Below w3.heap.size w3 wx)
          case first =>
            cases j with
            | zero =>
              obtain rfl : Q = false := by rw [hQ]; rfl
              clear hQ HF
              go_quiet (fail)
              go_wp2_with fail
              go_meet
              exact ⟨rfl, below_drewN (Below.refl _ _) _⟩
            | succ t =>
              obtain ⟨br, offr, rfl, hbr, e0, e1, e2, e3⟩ := hoR1.row.at_ (k := t) (by omega)
              have hlq := Vr.leq_of v.name R[t]!.name
              rw [show t + 1 - 1 = t from rfl] at hQ
              obtain ⟨u, hu⟩ : ∃ u, u = R[t]! := ⟨_, rfl⟩
              rw [← hu] at hlq hQ e0
              clear hu e1 e2 e3
              cases hq : Vr.lss u.name v.name with
              | true =>
                rw [hq] at hlq hQ
                have hlq : (Op.bytesLess v.name.toList u.name.toList || v.name.toList == u.name.toList) = false := hlq
                obtain rfl : Q = false := by rw [hQ]; simp
                clear hq
                clear hQ HF
                go_quiet (fail)
                go_wp2_with fail
                go_meet
                exact ⟨rfl, below_drewN (Below.refl _ _) _⟩
              | false =>
                rw [hq] at hlq hQ
                have hlq : (Op.bytesLess v.name.toList u.name.toList || v.name.toList == u.name.toList) = true := hlq
                clear hq
                by_cases hf : f < 0
                · obtain rfl : Q = true := by rw [hQ]; simp [hf]
                  clear hQ HF
                  go_quiet (fail)
                  go_wp2_with fail
                  go_meet
                  exact ⟨rfl, below_drewN (Below.refl _ _) _⟩
                · obtain rfl : Q = false := by rw [hQ]; simp [hf]
                  have hfd : decide (f < 0) = false := by simpa using hf
                  clear hQ HF
                  go_quiet (fail)
                  go_wp2_with fail
                  go_meet
                  exact ⟨rfl, below_drewN (Below.refl _ _) _⟩
          case rest =>
            obtain ⟨rfl, hbx2⟩ := hcut
            generalize wc = w4 at *
            have hoL2 := hoL1.below hbx2 (Nat.le_refl _)
            have hoR2 := hoR1.below hbx2 (Nat.le_refl _)
            have hbw2 := hbw1.trans (hbx2.mono hbw1.size)
            have bx2 := (Box.mk x0 x1 x2 x3).below hbx2
            clear hbx2 hoL1 hoR1 hbw1 x0 x1 x2 x3 hQ
            go_upto_if 63 with (fail)
            go_cut [8] from 64 to 78 (fun s8 wx => s8 = .int .i64 (if Q = true then (j : Int) else f) ∧ wx = w4)
            case first =>
              cases Q with
              | true => go_wp2_with fail; go_meet; exact ⟨rfl, rfl⟩
              | false => go_wp2_with fail; go_meet; exact ⟨rfl, rfl⟩
            case rest =>
              obtain ⟨rfl, rfl⟩ := hcut
              generalize wc = w4 at *
              generalize (if Q = true then (j : Int) else f) = f' at *
              obtain ⟨x0, x1, x2, x3⟩ := bx2
              go_wp2_with (at_builtin; refine append_var rfl (.tmp 65) (.tmp 67) rfl _ v w.heap.size AR j cR R rfl hoR2 rfl ?h5 ?h6 ?_)
              case h5 => omega
              case h6 => exact hbw2.size
              intro AR2 cR2 w5 hoR3 hg
              have hne : some pb ≠ (Value.slice AR j cR).ownBlock := fun e => Nat.lt_irrefl _ (HRLT.out pb e.symm)
              have x0 := hg.grown.cell x0 hne
              have x1 := hg.grown.cell x1 hne
              have x2 := hg.grown.cell x2 hne
              have x3 := hg.grown.cell x3 hne
              have hoL3 : OwnVars w5 w.heap.size 45 AL nL cL L := hg.kept hoL2 hap.symm
              have hbw3 := below_grew hbw2 hg hoR2 (Nat.le_refl _)
              have hal : Below w5.heap.size w5 (w5.alloc (.cells #[.string v.name, .int .i64 v.kind, .int .i64 v.num, .string v.text] 45)) := (Below.refl _ _).alloc (Nat.le_refl _) _
              have hm6 : VRow (w5.alloc (.cells #[.string v.name, .int .i64 v.kind, .int .i64 v.num, .string v.text] 45)) (w5.alloc (.cells #[.string v.name, .int .i64 v.kind, .int .i64 v.num, .string v.text] 45)).heap.size (some ⟨w5.heap.size, 0, none⟩) 1 [v] := by rw [World.size_alloc]; exact varRow_lit w5 v
              have hSet := set_any (W := w) AL nL cL L (some ⟨w5.heap.size, 0, none⟩) 1 1 [v] hE (hbw3.trans (hal.mono hbw3.size)) (hoL3.below hal (Nat.le_refl _)).row hoL3.nn (by omega) hm6 (by omega) hLI.out (fun x hx => by rw [List.mem_singleton.1 hx]; exact HIV.out)
              rw [Vr.setV_one hG.out HFV.out (by rw [HLL.out]; omega)] at hSet
              dsimp only at hSet
              clear hm6 hne hg hoR2 hoL2 hbw2
              go_wp2_with fail
              refine hSet.mono ?_
              rintro e w7 ⟨AL2, nL2, cL2, ev, rfl, hoN, hsv, hb7⟩
              obtain rfl := hsv.none_of
              have h57 := hal.trans (hb7.mono hal.size)
              have hoR4 := hoR3.below h57 (Nat.le_refl _)
              have hap2 : Apart (.slice AL2 nL2 cL2) (.slice AR2 (j + 1) cR2) := (apart_of hoR3 hoN hal.size).symm
              have hoN2 := hoN.lower (Nat.le_trans hbw3.size hal.size)
              have hbw4 := hbw3.trans (h57.mono hbw3.size)
              have hn2 : nL2 ≤ j + 1 := by have h1 := hoN.len; have h2 := (Vr.setOne_len L v).2; rw [HLL.out] at h2; omega
              have HG2 : Hid (Vr.Good (Vr.setOne L v)) := hG.out.setOne HFV.out
              have HLI2 : Hid (∀ x ∈ Vr.setOne L v, Vr.InV x) := Vr.setOne_all hLI.out HIV.out
              have HRI2 : Hid (∀ x ∈ R ++ [v], Vr.fault x = 0 ∧ Vr.InV x) := fun x hx => by
                rcases List.mem_append.1 hx with h | h
                · exact hRI.out x h
                · rw [List.mem_singleton.1 h]; exact ⟨HFV.out, HIV.out⟩
              have HFI2 : Hid (Vr.First (R ++ [v]) f') := HF.out.1
              have HLR2 : Hid (f' < 0 → Vr.setOne L v = R ++ [v]) := fun h => by
                obtain ⟨h1, h2⟩ := HF.out.2.1 h
                rw [hLR.out h1]
                exact Vr.asc_set h2 fun x hx => (HRI2.out x hx).1
              have hf2 : -1 ≤ f' := HF.out.2.2.1
              have hf3 : f' ≤ 8 := HF.out.2.2.2
              clear hSet hsv hb7 hal h57 hoR3 hoN hbw3 hoL3 x0 x1 x2 x3
              go_wp2
              go_roundw
              case measure => simp [intOf]; omega
              case rel =>
                exact ⟨j + 1, _, _, _, _, _, _, _, f', by omega, by go_num, rfl, rfl, rfl, hoN2, hoR4, hap2, HG2, HLI2, HRI2, HFI2, HLR2, hn2, hf2, hf3, hbw4⟩
      · obtain rfl : j = n := by omega
        go_wp2_with fail
        go_loopw [14] (fun i wx => ∃ k : Nat, 1 ≤ k ∧ k ≤ 12 ∧ i = .int .i64 k ∧ Below wr.heap.size wr wx) (fun i _ => nL - (intOf i).toNat)
        case atStart => exact ⟨1, by omega, by omega, rfl, Below.refl _ _⟩
        case round =>
          obtain ⟨k, hk1, hk, rfl, hbx⟩ := hrel
          obtain ⟨t, rfl⟩ : ∃ t, k = t + 1 := ⟨k - 1, by omega⟩
          rename_i wx
          by_cases hkn : t + 1 < nL
          · have hro := (hoL.below hbx (Nat.le_refl _)).row
            obtain ⟨b, off, rfl, hbb, c0, c1, c2, c3⟩ := hro.at_ hkn
            obtain ⟨p0, p1, p2, p3⟩ := hro.of (k := t) (by omega)
            have hlq := Vr.leq_of L[t + 1]!.name L[t]!.name
            have hR : Vr.lss L[t]!.name L[t + 1]!.name = true := hG.out.at_ (i := t) (j := t + 1) (by omega) (by rw [HLL.out]; exact hkn)
            rw [hR] at hlq
            have hlq : (Op.bytesLess L[t + 1]!.name.toList L[t]!.name.toList || L[t + 1]!.name.toList == L[t]!.name.toList) = false := hlq
            clear hR c1 c2 c3 p1 p2 p3
            generalize L[t + 1]!.name = a1 at *
            generalize L[t]!.name = a0 at *
            go_wp2_with fail
            go_quiet (fail)
            go_wp2
            go_roundw
            case measure => simp [intOf]; omega
            case rel => exact ⟨t + 2, by omega, by omega, by go_num, below_drewN hbx _⟩
          · have hK := check_any (W := w) AR j cR R hE (hbw.trans (hbx.mono hbw.size)) (hoR.below hbx (Nat.le_refl _)).row (by omega) (fun x hx => (hRI.out x hx).2)
            have hbwx := hbw.trans (hbx.mono hbw.size)
            have hoLx := hoL.below hbx (Nat.le_refl _)
            have hoRx := hoR.below hbx (Nat.le_refl _)
            clear hbx hoL hoR
            by_cases hf : f < 0
            · have hasc : Vr.Asc R := by
                rcases hFi.out with ⟨_, h⟩ | ⟨b, hb, _⟩
                · exact h
                · omega
              rw [(Vr.asc_good hasc fun x hx => (hRI.out x hx).1).check (by rw [HRL.out]; omega)] at hK
              obtain rfl := hLR.out hf
              clear hasc
              go_wp2_with fail
              refine hK.mono ?_
              rintro e w8 ⟨⟨ev, rfl, hsv⟩, hb8⟩
              obtain rfl := hsv.none_of
              obtain rfl : nL = j := by rw [← HLL.out, HRL.out]
              have hVs := vsame_any (w := w8) AL nL cL L AR nL cR L (hoLx.below hb8 (Nat.le_refl _)).row (hoRx.below hb8 (Nat.le_refl _)).row (by omega) (by omega)
              rw [Vr.sameL_refl] at hVs
              have hbw8 := hbwx.trans (hb8.mono hbwx.size)
              clear hK hsv hoLx hoRx hb8 hbwx hbw
              go_wp2_with fail
              refine hVs.mono ?_
              rintro e w9 ⟨rfl, hb9⟩
              go_wp2
              go_ret
              exact ⟨rfl, hbw8.trans (hb9.mono hbw8.size)⟩
            · obtain ⟨b, rfl, hb, h1, h2⟩ : ∃ b : Nat, f = (b : Int) + 1 ∧ b + 1 < R.length ∧ Vr.lss R[b]!.name R[b + 1]!.name = false ∧ ∀ i, i < b → Vr.lss R[i]!.name R[i + 1]!.name = true := by
                rcases hFi.out with ⟨h, _⟩ | h
                · omega
                · exact h
              rw [Vr.check_first (by rw [HRL.out]; omega) (fun x hx => (hRI.out x hx).1) hb h1 h2] at hK
              clear h1 h2 hb
              have hf' : ¬ ((b : Int) + 1 < 0) := hf
              go_wp2_with fail
              refine hK.mono ?_
              rintro e w8 ⟨⟨ev, rfl, hsv⟩, hb8⟩
              have hbw8 := hbwx.trans (hb8.mono hbwx.size)
              clear hK hoLx hoRx hb8 hbwx hbw
              go_wp2_with fail
              refine (placed_any 109 ((b : Int) + 1) (by decide) _).mono ?_
              rintro e w9 ⟨rfl, hb9⟩
              have hbw9 := hbw8.trans (hb9.mono hbw8.size)
              have hS := same_seen (hE0.below hbw9 (Nat.le_refl _)) (hsv.below hb9 (Nat.le_refl _)) 109 true ((b : Int) + 1)
              clear hsv hb9
              go_wp2_with fail
              refine hS.mono ?_
              rintro e w10 ⟨rfl, hb10⟩
              go_wp2
              go_ret
              exact ⟨by simp, hbw9.trans (hb10.mono hbw9.size)⟩
end Go.Proofs.YthkgjdhbibialaaDoor
