/- Walk of the statement CondDeep: brackets, nots, signs may stand in one another up to a bound. -/
import Derived.Test.YtpjdbccndlbbhaaGreatDoorKa
import Derived.Test.YtpjdbccndlbbhaaGreatDoorSa
namespace Go.Proofs.YtpjdbccndlbbhaaGreatDoor
open Go.RowKit

namespace Co
/-- What opens, stands inside, closes. -/
def oD (j : Nat) : List UInt8 := [[40], [110, 111, 116, 32], [45]][j]!
def iD (j : Nat) : List UInt8 := [[97], [112], [97]][j]!
def cD (j : Nat) : List UInt8 := if j = 0 then [41] else []
def repD (o : List UInt8) (k : Nat) : List UInt8 := (List.replicate k o).flatten
theorem deepL0 : (List.range 20).all (fun n => decide ((deepT [40] [97] [41] n).length ≤ 80)) = true := by decide +kernel
theorem deepL1 : (List.range 20).all (fun n => decide ((deepT [110, 111, 116, 32] [112] [] n).length ≤ 80)) = true := by decide +kernel
theorem deepL2 : (List.range 20).all (fun n => decide ((deepT [45] [97] [] n).length ≤ 80)) = true := by decide +kernel
theorem deepAll (j n : Nat) (hj : j < 3) (hn : n < 20) :
    (∃ e, parse (deepT (oD j) (iD j) (cD j) n) = some (e, if n ≤ 12 then none else some (112, 12 * (oD j).length))) ∧ (deepT (oD j) (iD j) (cD j) n).length ≤ 80 := by
  have hm : n ∈ List.range 20 := List.mem_range.2 hn
  have key : ∀ (l : List UInt8) (r : Option (Int × Nat)), deepR l = some r → ∃ e, parse l = some (e, r) := by
    intro l r h
    unfold deepR at h
    cases hp : parse l with
    | none => rw [hp] at h; cases h
    | some x => obtain ⟨e, q⟩ := x; rw [hp] at h; cases h; exact ⟨e, rfl⟩
  have e : j = 0 ∨ j = 1 ∨ j = 2 := by omega
  rcases e with rfl | rfl | rfl
  · exact ⟨key _ _ (of_decide_eq_true (List.all_eq_true.1 deep0 n hm)), of_decide_eq_true (List.all_eq_true.1 deepL0 n hm)⟩
  · have hl := of_decide_eq_true (List.all_eq_true.1 deepL1 n hm)
    have h := of_decide_eq_true (List.all_eq_true.1 deep1 n hm)
    rw [if_neg (show ¬ 80 < (deepT [110, 111, 116, 32] [112] [] n).length from Nat.not_lt.2 hl)] at h
    exact ⟨key _ _ h, hl⟩
  · exact ⟨key _ _ (of_decide_eq_true (List.all_eq_true.1 deep2 n hm)), of_decide_eq_true (List.all_eq_true.1 deepL2 n hm)⟩
theorem rep_next (o : List UInt8) (k : Nat) : repD o (k + 1) = repD o k ++ o := by
  unfold repD; rw [List.replicate_succ', List.flatten_append]; simp
theorem rep_len (o : List UInt8) : ∀ k, (repD o k).length = k * o.length
  | 0 => by simp [repD]
  | k + 1 => by rw [rep_next, List.length_append, rep_len o k, Nat.succ_mul]
theorem oD_len (j : Nat) (hj : j < 3) : (oD j).length ≤ 4 := by
  have e : j = 0 ∨ j = 1 ∨ j = 2 := by omega
  rcases e with rfl | rfl | rfl <;> decide
theorem iD_len (j : Nat) (hj : j < 3) : (iD j).length = 1 := by
  have e : j = 0 ∨ j = 1 ∨ j = 2 := by omega
  rcases e with rfl | rfl | rfl <;> decide
theorem addO (j k : Nat) (hj : j < 3) (hk : k < 20) (W : World) : (Op.stringOp .add ⟨(repD (oD j) k).toArray⟩ ⟨(oD j).toArray⟩).run Tryz.prog W = .ok (.string ⟨(repD (oD j) (k + 1)).toArray⟩) W := by
  have h1 := oD_len j hj
  have h2 := rep_len (oD j) k
  have h3 : k * (oD j).length ≤ 20 * 4 := Nat.mul_le_mul (by omega) h1
  rw [rep_next]
  exact run_string_add_lists W _ _ (by omega) (by omega)
theorem addI (j k : Nat) (hj : j < 3) (hk : k < 20) (W : World) : (Op.stringOp .add ⟨(repD (oD j) k).toArray⟩ ⟨(iD j).toArray⟩).run Tryz.prog W = .ok (.string ⟨(repD (oD j) k ++ iD j).toArray⟩) W := by
  have h1 := oD_len j hj
  have h2 := rep_len (oD j) k
  have h3 : k * (oD j).length ≤ 20 * 4 := Nat.mul_le_mul (by omega) h1
  have h4 := iD_len j hj
  exact run_string_add_lists W _ _ (by omega) (by omega)
def txtD (j n k : Nat) : List UInt8 := repD (oD j) n ++ iD j ++ repD [41] k
theorem addC (j n k : Nat) (hj : j < 3) (hn : n < 20) (hk : k < 20) (W : World) : (Op.stringOp .add ⟨(txtD j n k).toArray⟩ ⟨#[41]⟩).run Tryz.prog W = .ok (.string ⟨(txtD j n (k + 1)).toArray⟩) W := by
  have h1 := oD_len j hj
  have h2 := rep_len (oD j) n
  have h3 : n * (oD j).length ≤ 20 * 4 := Nat.mul_le_mul (by omega) h1
  have h4 := iD_len j hj
  have h5 := rep_len [41] k
  have h6 : ([41] : List UInt8).length = 1 := rfl
  rw [h6] at h5
  unfold txtD
  rw [rep_next, ← List.append_assoc]
  exact run_string_add_lists W _ [41] (by simp only [List.length_append]; omega) (by decide)
theorem txtD_nil (j n : Nat) : txtD j n 0 = repD (oD j) n ++ iD j := List.append_nil _
theorem rep_no (k : Nat) : repD [] k = [] := by
  induction k with
  | zero => rfl
  | succ k ih => rw [rep_next, ih]; rfl
/-- The whole text. -/
theorem deepT_eq (j n k : Nat) (h : k = if j = 0 then n else 0) : deepT (oD j) (iD j) (cD j) n = txtD j n k := by
  unfold deepT txtD
  have : (List.replicate n (cD j)).flatten = repD [41] k := by
    by_cases h0 : j = 0
    · rw [if_pos h0] at h; rw [h]; unfold cD; rw [if_pos h0]; rfl
    · rw [if_neg h0] at h; rw [h]; unfold cD; rw [if_neg h0]; exact rep_no n
  rw [this]; rfl
theorem seen_of {E : Int → Option Addr} {w : World} {ev : Value} {c : Int} {k : Nat} (h : ErrSt E w ev (some (c, k))) : SeenF E w ev c (some k) := by
  obtain ⟨b, a, rfl, h2, h3, hb⟩ := h
  exact .at_ b c a k h2 h3 (cell_of_row w b 0 _ _ (0, 0) hb) (cell_of_row w b 1 _ _ (0, 0) hb)
end Co
set_option maxHeartbeats 3200000 in
set_option maxRecDepth 20000 in
theorem condDeep_walk (n which : Int) (ads : List Addr) (w : World) (n0 : -9223372036854775808 ≤ n) (n1 : n ≤ 9223372036854775807) (h0 : -9223372036854775808 ≤ which) (h1 : which ≤ 9223372036854775807)
    (hE0 : Errs w 136 sents ads) (hW : CoWords w) :
    Calls Tryz.prog 6 #[.int .i64 n, .int .i64 which] w fun e w' => e = .returned (.bool true) ∧ Below w.heap.size w w' := by
  have hE := coErrs16 hE0 hW
  have HE := Lib.hid hE
  have HE0 := Lib.hid hE0
  have HF := Lib.hid (cfirst_any hE (Below.refl w.heap.size w))
  have HA := Lib.hid (And.intro h0 h1)
  have HN := Lib.hid (And.intro n0 n1)
  clear hE hE0 hW h0 h1 n0 n1
  go_enter Tryz.func6, Tryz.ntmps6
  go_wp2_with fail
  refine HF.out.mono ?_
  rintro e w1 ⟨rfl, hb1⟩
  have HB1 := Lib.hid hb1
  clear hb1 HF
  go_upto_if 17 with (fail)
  go_cut [0] from 14 to 20 (fun s wx => Below w1.heap.size w1 wx ∧ ∃ m : Nat, s = .int .i64 m ∧ m ≤ 9223372036854775807)
  case first =>
    obtain ⟨n0, n1⟩ := HN.out
    clear HE HE0 HA HN HB1
    by_cases hneg : n < 0
    · obtain ⟨m, hm⟩ : ∃ m : Nat, -(n + 1) = m := ⟨(-(n + 1)).toNat, by omega⟩
      have e1 : IntKind.i64.wrap (n + 1) = n + 1 := by rw [IntKind.wrap_i64]; omega
      have e2 : IntKind.i64.wrap (-(n + 1)) = (m : Int) := by rw [hm, IntKind.wrap_i64]; omega
      have e3 : m ≤ 9223372036854775807 := by omega
      clear hm
      go_wp2_with fail
      go_meet
      exact ⟨Below.refl _ _, m, rfl, e3⟩
    · obtain ⟨m, rfl⟩ : ∃ m : Nat, n = m := ⟨n.toNat, by omega⟩
      go_wp2_with fail
      go_meet
      exact ⟨Below.refl _ _, m, rfl, by omega⟩
  case rest =>
    obtain ⟨hbx, m, rfl, hm⟩ := hcut
    have HB2 := Lib.hid (HB1.out.trans (hbx.mono HB1.out.size))
    have hmod : ((m : Int).tmod 20) = ((m % 20 : Nat) : Int) := rfl
    have hN : m % 20 < 20 := Nat.mod_lt _ (by decide)
    clear HN hm hbx HB1
    generalize m % 20 = N at *
    generalize wc = w2 at *
    go_upto_if 24 with (fail)
    clear hmod
    go_cut [1] from 14 to 27 (fun s wx => Below w2.heap.size w2 wx ∧ ∃ m : Nat, s = .int .i64 m ∧ m ≤ 9223372036854775807)
    case first =>
      obtain ⟨n0, n1⟩ := HA.out
      clear HE HE0 HA HB2
      by_cases hneg : which < 0
      · obtain ⟨m, hm⟩ : ∃ m : Nat, -(which + 1) = m := ⟨(-(which + 1)).toNat, by omega⟩
        have e1 : IntKind.i64.wrap (which + 1) = which + 1 := by rw [IntKind.wrap_i64]; omega
        have e2 : IntKind.i64.wrap (-(which + 1)) = (m : Int) := by rw [hm, IntKind.wrap_i64]; omega
        have e3 : m ≤ 9223372036854775807 := by omega
        clear hm
        go_wp2_with fail
        go_meet
        exact ⟨Below.refl _ _, m, rfl, e3⟩
      · obtain ⟨m, rfl⟩ : ∃ m : Nat, which = m := ⟨which.toNat, by omega⟩
        go_wp2_with fail
        go_meet
        exact ⟨Below.refl _ _, m, rfl, by omega⟩
    case rest =>
      obtain ⟨hbx, m2, rfl, hm⟩ := hcut
      have HB3 := Lib.hid (HB2.out.trans (hbx.mono HB2.out.size))
      have hmod : ((m2 : Int).tmod 3) = ((m2 % 3 : Nat) : Int) := rfl
      have hj : m2 % 3 < 3 := Nat.mod_lt _ (by decide)
      clear HA hm hbx HB2
      generalize m2 % 3 = j at *
      generalize wc = w3 at *
      go_upto_region 9 with (fail)
      go_cut [6] from 28 to 32 (fun s wx => s = .string ⟨(Co.oD j).toArray⟩ ∧ Below w3.heap.size w3 wx)
      case first =>
        have e : j = 0 ∨ j = 1 ∨ j = 2 := by omega
        have HBN := Lib.hid ((Below.refl w3.heap.size w3).alloc (Nat.le_refl _) (.cells #[.string ⟨#[40]⟩, .string ⟨#[110, 111, 116, 32]⟩, .string ⟨#[45]⟩] 9))
        clear HE HE0 HB3
        rcases e with rfl | rfl | rfl
        all_goals
          go_wp2_with fail
          go_meet
          exact ⟨rfl, HBN.out⟩
      case rest =>
        obtain ⟨rfl, hbx⟩ := hcut
        have HB4 := Lib.hid (HB3.out.trans (hbx.mono HB3.out.size))
        clear hbx HB3
        generalize wc = w4 at *
        go_upto_region 10 with (fail)
        go_cut [7] from 33 to 37 (fun s wx => s = .string ⟨(Co.iD j).toArray⟩ ∧ Below w4.heap.size w4 wx)
        case first =>
          have e : j = 0 ∨ j = 1 ∨ j = 2 := by omega
          have HBN := Lib.hid ((Below.refl w4.heap.size w4).alloc (Nat.le_refl _) (.cells #[.string ⟨#[97]⟩, .string ⟨#[112]⟩, .string ⟨#[97]⟩] 9))
          clear HE HE0 HB4
          rcases e with rfl | rfl | rfl
          all_goals
            go_wp2_with fail
            go_meet
            exact ⟨rfl, HBN.out⟩
        case rest =>
          obtain ⟨rfl, hbx⟩ := hcut
          have HB5 := Lib.hid (HB4.out.trans (hbx.mono HB4.out.size))
          clear hbx HB4
          generalize wc = w5 at *
          go_wp2_with fail
          go_loopw [8, 9] (fun s i wr => ∃ k : Nat, k ≤ N ∧ s = .string ⟨(Co.repD (Co.oD j) k).toArray⟩ ∧ i = .int .i64 k ∧ Below w5.heap.size w5 wr) (fun _ i _ => N - (intOf i).toNat)
          case atStart => exact ⟨0, Nat.zero_le _, rfl, rfl, Below.refl _ _⟩
          case round =>
            obtain ⟨k, hk, rfl, rfl, hbr⟩ := hrel
            by_cases hlt : k < N
            · have r1 := Co.addO j k hj (by omega)
              have hkI : (k : Int) < (N : Int) := by omega
              go_wp2_with fail
              go_roundw
              case measure => simp [intOf]; omega
              case rel => exact ⟨k + 1, by omega, rfl, by go_num, hbr⟩
            · obtain rfl : N = k := by omega
              have r1 := Co.addI j N hj hN
              have HB6 := Lib.hid (HB5.out.trans (hbr.mono HB5.out.size))
              clear hbr HB5 hk hlt
              generalize wr = w6 at *
              go_wp2_with fail
              go_loopw [8, 10] (fun s i wr => ∃ k : Nat, k ≤ N ∧ (j = 0 ∨ k = 0) ∧ s = .string ⟨(Co.txtD j N k).toArray⟩ ∧ i = .int .i64 k ∧ Below w6.heap.size w6 wr) (fun _ i _ => N - (intOf i).toNat)
              case atStart => exact ⟨0, Nat.zero_le _, .inr rfl, by rw [Co.txtD_nil], rfl, Below.refl _ _⟩
              case round =>
                obtain ⟨k, hk, hjk, rfl, rfl, hbr⟩ := hrel
                by_cases hgo : k < N ∧ j = 0
                · obtain ⟨hlt, rfl⟩ := hgo
                  have hmod0 : (m2 : Int).tmod 3 = 0 := hmod
                  have r2 := Co.addC 0 N k (by decide) hN (by omega)
                  have hkI : (k : Int) < (N : Int) := by omega
                  clear hmod
                  go_wp2_with fail
                  go_roundw
                  case measure => simp [intOf]; omega
                  case rel => exact ⟨k + 1, by omega, by simp, rfl, by go_num, hbr⟩
                · have hkk : k = if j = 0 then N else 0 := by split <;> omega
                  obtain ⟨⟨e0, hp⟩, hlen⟩ := Co.deepAll j N hj hN
                  rw [Co.deepT_eq j N k hkk] at hp hlen
                  have HWR := Lib.hid hbr
                  have hcs : ¬ k < N ∨ (k < N ∧ ¬ j = 0) := by omega
                  have hol := Co.oD_len j hj
                  clear hkk hgo hjk hbr r1
                  generalize Co.txtD j N k = t at *
                  have hsz : (⟨t.toArray⟩ : ByteArray).size ≤ 80 := by simpa [ByteArray.size] using hlen
                  have hO : (((⟨(Co.oD j).toArray⟩ : ByteArray).size : Nat) : Int) = ((Co.oD j).length : Int) := by simp [ByteArray.size]
                  generalize (⟨(Co.oD j).toArray⟩ : ByteArray) = O at *
                  generalize (Co.oD j).length = L at *
                  have hwr : IntKind.i64.wrap (12 * (L : Int)) = ((12 * L : Nat) : Int) := by rw [IntKind.wrap_i64]; omega
                  have HP := Lib.hid (cparse_any (W := w6) (HE.out.below HB6.out) HWR.out hsz e0 _ hp)
                  have hszI : ¬ (80 : Int) < (((⟨t.toArray⟩ : ByteArray).size : Nat) : Int) := by omega
                  generalize (⟨t.toArray⟩ : ByteArray) = SS at *
                  clear hsz hlen hp
                  generalize wr = w7 at *
                  rcases hcs with hlt | ⟨hlt, hj0⟩
                  · have hkI : ¬ (k : Int) < (N : Int) := by omega
                    have hmod0 : True := trivial
                    by_cases h12 : N ≤ 12
                    · rw [if_pos h12] at HP
                      have hI12 : (N : Int) ≤ 12 := by omega
                      clear hwr hO hol hmod0
                      go_wp2_with fail
                      refine HP.out.mono ?_
                      rintro e w8 ⟨⟨y, ev, rfl, hat, hev⟩, hb8⟩
                      obtain rfl : ev = .nilIface := hev
                      have hb8a : Below w7.heap.size w7 (w8.alloc (.cells #[.int .i64 y.op, .int .i64 y.kind, .int .i64 y.num, .string y.txt, .string y.name, .slice y.A y.n y.c] 39)) := hb8.alloc hb8.size _
                      have hb7c := HB6.out.trans (HWR.out.mono HB6.out.size)
                      have HBF := Lib.hid (hb7c.trans (hb8a.mono hb7c.size))
                      clear hat hb8 hb8a hb7c HP HWR HB6
                      unfold Ex.val
                      go_wp2
                      go_ret
                      exact ⟨rfl, HBF.out⟩
                    · rw [if_neg h12] at HP
                      have hI12 : ¬ (N : Int) ≤ 12 := by omega
                      clear hmod0
                      go_wp2_with fail
                      refine HP.out.mono ?_
                      rintro e w8 ⟨⟨y, ev, rfl, hat, hev⟩, hb8⟩
                      have hb8n := (Below.refl w8.heap.size w8).alloc (Nat.le_refl _) (.cells #[.int .i64 y.op, .int .i64 y.kind, .int .i64 y.num, .string y.txt, .string y.name, .slice y.A y.n y.c] 39)
                      have HS := Lib.hid ((Co.seen_of hev).below hb8n (Nat.le_refl _))
                      have hb8a : Below w7.heap.size w7 (w8.alloc (.cells #[.int .i64 y.op, .int .i64 y.kind, .int .i64 y.num, .string y.txt, .string y.name, .slice y.A y.n y.c] 39)) := hb8.alloc hb8.size _
                      have hb7c := HB6.out.trans (HWR.out.mono HB6.out.size)
                      have HB8 := Lib.hid (hb7c.trans (hb8a.mono hb7c.size))
                      clear hat hev hb8 hb8n hb8a hb7c HP HWR HB6
                      unfold Ex.val
                      go_wp2_with fail
                      refine (placed_any 112 _ (by decide) _).mono ?_
                      rintro e w9 ⟨rfl, hb9⟩
                      have HB9 := Lib.hid (HB8.out.trans (hb9.mono HB8.out.size))
                      have HSM := Lib.hid (same_seen (HE0.out.below HB9.out (Nat.le_refl _)) (HS.out.below hb9 (Nat.le_refl _)) 112 true ((12 * L : Nat) : Int))
                      clear hb9 HB8 HS
                      go_wp2_with fail
                      refine HSM.out.mono ?_
                      rintro e w10 ⟨rfl, hb10⟩
                      have HBF := Lib.hid (HB9.out.trans (hb10.mono HB9.out.size))
                      clear hb10 HB9 HSM
                      go_wp2
                      go_ret
                      exact ⟨by simp, HBF.out⟩
                  · have hkI : (k : Int) < (N : Int) := by omega
                    have hmod0 : ((j : Int) == 0) = false := by rw [beq_eq_false_iff_ne]; omega
                    have hmod1 : ¬ (j : Int) = 0 := by omega
                    by_cases h12 : N ≤ 12
                    · rw [if_pos h12] at HP
                      have hI12 : (N : Int) ≤ 12 := by omega
                      clear hwr hO hol hmod0
                      go_wp2_with fail
                      refine HP.out.mono ?_
                      rintro e w8 ⟨⟨y, ev, rfl, hat, hev⟩, hb8⟩
                      obtain rfl : ev = .nilIface := hev
                      have hb8a : Below w7.heap.size w7 (w8.alloc (.cells #[.int .i64 y.op, .int .i64 y.kind, .int .i64 y.num, .string y.txt, .string y.name, .slice y.A y.n y.c] 39)) := hb8.alloc hb8.size _
                      have hb7c := HB6.out.trans (HWR.out.mono HB6.out.size)
                      have HBF := Lib.hid (hb7c.trans (hb8a.mono hb7c.size))
                      clear hat hb8 hb8a hb7c HP HWR HB6
                      unfold Ex.val
                      go_wp2
                      go_ret
                      exact ⟨rfl, HBF.out⟩
                    · rw [if_neg h12] at HP
                      have hI12 : ¬ (N : Int) ≤ 12 := by omega
                      clear hmod0
                      go_wp2_with fail
                      refine HP.out.mono ?_
                      rintro e w8 ⟨⟨y, ev, rfl, hat, hev⟩, hb8⟩
                      have hb8n := (Below.refl w8.heap.size w8).alloc (Nat.le_refl _) (.cells #[.int .i64 y.op, .int .i64 y.kind, .int .i64 y.num, .string y.txt, .string y.name, .slice y.A y.n y.c] 39)
                      have HS := Lib.hid ((Co.seen_of hev).below hb8n (Nat.le_refl _))
                      have hb8a : Below w7.heap.size w7 (w8.alloc (.cells #[.int .i64 y.op, .int .i64 y.kind, .int .i64 y.num, .string y.txt, .string y.name, .slice y.A y.n y.c] 39)) := hb8.alloc hb8.size _
                      have hb7c := HB6.out.trans (HWR.out.mono HB6.out.size)
                      have HB8 := Lib.hid (hb7c.trans (hb8a.mono hb7c.size))
                      clear hat hev hb8 hb8n hb8a hb7c HP HWR HB6
                      unfold Ex.val
                      go_wp2_with fail
                      refine (placed_any 112 _ (by decide) _).mono ?_
                      rintro e w9 ⟨rfl, hb9⟩
                      have HB9 := Lib.hid (HB8.out.trans (hb9.mono HB8.out.size))
                      have HSM := Lib.hid (same_seen (HE0.out.below HB9.out (Nat.le_refl _)) (HS.out.below hb9 (Nat.le_refl _)) 112 true ((12 * L : Nat) : Int))
                      clear hb9 HB8 HS
                      go_wp2_with fail
                      refine HSM.out.mono ?_
                      rintro e w10 ⟨rfl, hb10⟩
                      have HBF := Lib.hid (HB9.out.trans (hb10.mono HB9.out.size))
                      clear hb10 HB9 HSM
                      go_wp2
                      go_ret
                      exact ⟨by simp, HBF.out⟩
end Go.Proofs.YtpjdbccndlbbhaaGreatDoor
