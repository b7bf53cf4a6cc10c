/- Walks of package frame: sum, size, Read. -/
import Derived.Test.YtcgcacnlafdggaaDoorFe
import Derived.Test.YtcgcacnlafdggaaDoorFr
import Derived.Test.YtcgcacnlafdggaaDoorWa
import Derived.Test.YtcgcacnlafdggaaDoorEq
import Derived.Test.YtcgcacnlafdggaaDoorClone
import Derived.Deep.QuietTactic
import Derived.BigQuiet
import Derived.Deep.RegionWith
import Derived.Deep.DeepCutAuto
import Derived.StillTailTactics
import Derived.Deep.RegionHeld3
namespace Go.Proofs.YtcgcacnlafdggaaDoor
open Go.RowKit

set_option maxHeartbeats 400000 in
theorem fsum_any (A : Option Addr) (n c : Nat) (l : List UInt8) (w : World) (hr : Bytes w w.heap.size A n l) (hn : n ≤ 140737488355328) (ht : Steps w) :
    Calls Tryd.prog 19 #[.slice A n c] w fun e w' => ∃ A', e = .returned (.slice A' 4 4) ∧ OwnBytes w' w.heap.size 5 A' 4 4 (Crc.four (Crc.sum l)) ∧ Below w.heap.size w w' := by
  go_enter Tryd.func19, Tryd.ntmps19
  go_wp2_with fail
  refine (sum_one A n c l w hr hn ht).mono ?_
  rintro e w1 ⟨rfl, rfl⟩
  have hal : Below w.heap.size w (w.alloc (.cells #[.slice A n c] 25)) := (Below.refl _ _).alloc (Nat.le_refl _) _
  generalize hs : Crc.sum l = s at *
  go_wp2
  go_ret
  refine ⟨_, rfl, ?_, hal.alloc hal.size _⟩
  unfold OwnBytes
  rw [four_bv]
  have h := World.ownsRow_lit (w.alloc (.cells #[.slice A n c] 25)) #[.int .u8 (u s % (256 : Int)), .int .u8 (u s / (256 : Int) % (256 : Int)), .int .u8 (u s / (65536 : Int) % (256 : Int)), .int .u8 (u s / (16777216 : Int) % (256 : Int))] 4 (e := 5) (size := 1) (Nat.le_refl _) (by decide) rfl
  have h2 := own_base (base' := w.heap.size) h (by simp)
  rw [size_alloc] at h2
  rw [hs]
  exact h2

theorem wrong_str (l : List UInt8) : (!(l.take (min l.length 3) == ((⟨#[76, 104, 1]⟩ : ByteArray).extract 0 (min l.length 3)).toList)) = Fr.wrong l := by
  have e : ∀ k, k ≤ 3 → ((⟨#[76, 104, 1]⟩ : ByteArray).extract 0 k).toList = Fr.marks.take k := by
    intro k hk
    match k, hk with
    | 0, _ => rw [ByteArray.toList_eq]; rfl
    | 1, _ => rw [ByteArray.toList_eq]; rfl
    | 2, _ => rw [ByteArray.toList_eq]; rfl
    | 3, _ => rw [ByteArray.toList_eq]; rfl
  rw [e _ (Nat.min_le_right _ _)]
  have e1 : l.take (min l.length 3) = l.take 3 := by rw [Nat.min_comm, ← List.take_eq_take_min]
  have e2 : Fr.marks.take (min l.length 3) = Fr.marks.take l.length := by rw [show 3 = Fr.marks.length from rfl, ← List.take_eq_take_min]
  rw [e1, e2]
  rfl

/-- Two bytes as a number. -/
theorem two_bytes (x y : UInt8) : Go.bits BinOp.or .i64 (wrap64 (x.toNat : Int)) (wrap64 (wrap64 (y.toNat : Int) * 256)) = ((x.toNat + 256 * y.toNat : Nat) : Int) := by
  have hx := x.toNat_lt
  have hy := y.toNat_lt
  have e1 : wrap64 (x.toNat : Int) = ((x.toNat : Nat) : Int) := by unfold wrap64; omega
  have e2 : wrap64 (wrap64 (y.toNat : Int) * 256) = ((y.toNat * 256 : Nat) : Int) := by unfold wrap64; omega
  rw [e1, e2]
  show IntKind.i64.wrap ((BitVec.ofInt 64 _ ||| BitVec.ofInt 64 _).toNat : Int) = _
  rw [BitVec.ofInt_natCast, BitVec.ofInt_natCast, BitVec.toNat_or, BitVec.toNat_ofNat, BitVec.toNat_ofNat, Nat.mod_eq_of_lt (by omega), Nat.mod_eq_of_lt (by omega)]
  have h : x.toNat ||| y.toNat * 256 = x.toNat + 256 * y.toNat := by
    have := Nat.two_pow_add_eq_or_of_lt (i := 8) (b := x.toNat) (by simpa using hx) y.toNat
    rw [Nat.or_comm, Nat.mul_comm]
    simp only [Nat.reducePow] at this
    omega
  rw [h, IntKind.wrap_i64]
  omega

theorem results_tmp4 {fn : Func} {t u v x : Tmp} (h : fn.results = #[.tmp t, .tmp u, .tmp v, .tmp x]) (tmps : Array Value) (P : Program) (w : World) :
    (results fn tmps).run P w = .ok (.tuple #[tmps.getD t undef, tmps.getD u undef, tmps.getD v undef, tmps.getD x undef]) w := by
  simp [results, h]

section
variable {E : Int → Option Addr} {w : World}
/-- The comparison of what is there of the marks. -/
theorem bytes_conv (a : Addr) (k c : Nat) (l : List UInt8) (hr : Bytes w w.heap.size (some a) k l) (m : Nat) :
    (convert 25 9 (.slice (some a) k c)).run Tryd.prog (w.drewN m) = .ok (.string ⟨l.toArray⟩) (w.drewN m) :=
  (hr.below (below_drewN (Below.refl w.heap.size w) m) (Nat.le_refl _)).string (fun h => by cases h) c 25 9 5 Tryd.underlying25 Tryd.underlying5 Tryd.underlying9

set_option maxHeartbeats 1600000 in
theorem fsize_any (a : Addr) (n c : Nat) (l : List UInt8) (hE : FrErrs w E) (hr : Bytes w w.heap.size (some a) n l) (hn : n ≤ c) (hc : n ≤ 70368744177664) :
    Calls Tryd.prog 20 #[.slice (some a) n c] w fun e w' => ∃ ev, e = .returned (.tuple #[.int .i64 (if Fr.scode l = 0 then (Fr.blen l + 10 : Nat) else 0), ev]) ∧ SeenBy E ev (Fr.scode l) ∧ Below w.heap.size w w' := by
  have hl := hr.len
  obtain ⟨m, hm⟩ : ∃ m, m = min n 3 := ⟨_, rfl⟩
  have hmn : m ≤ n := by omega
  have hm3 : m ≤ 3 := by omega
  have hcv := bytes_conv a m c _ (hr.front hmn)
  have hws := wrong_str l
  rw [hl, ← hm] at hws
  have hm' : 3 ≤ n ∧ m = 3 ∨ n < 3 ∧ m = n := by omega
  have hmi : (m : Int) ≤ c := by omega
  have HW := Lib.hid hws
  clear hm hws
  go_enter Tryd.func20, Tryd.ntmps20
  go_upto_region 1 with (fail)
  go_cut [4] (fun s4 wx => s4 = .int .i64 m ∧ wx = w)
  case first =>
    go_wp2_with fail
    all_goals
      go_meet
      exact ⟨by congr 1; omega, rfl⟩
  case rest =>
    obtain ⟨rfl, rfl⟩ := hcut
    go_upto_region 2 with (fail)
    go_cut [16] (fun s16 wx => s16 = .bool (Fr.wrong l) ∧ Below wc.heap.size wc wx)
    case first =>
      go_quiet (fail)
      go_wp2_with fail
      go_meet
      exact ⟨by rw [← HW.out], below_drewN (Below.refl _ _) _⟩
    case rest =>
      obtain ⟨rfl, hbw⟩ := hcut
      clear hcv
      rename_i wc0
      by_cases hw : Fr.wrong l = true
      · obtain ⟨x, hka, hg⟩ := (hE.below hbw).e102
        have hs : Fr.scode l = 102 := by unfold Fr.scode; rw [if_pos hw]
        rw [hw]
        go_wp2
        go_quiet (fail)
        go_wp2
        go_ret2
        exact ⟨_, rfl, SeenBy.err 102 x hka (by decide), below_drewN hbw _⟩
      · have hw' : Fr.wrong l = false := by simpa using hw
        rw [hw']
        by_cases h6 : n < 6
        · obtain ⟨x, hka, hg⟩ := (hE.below hbw).e101
          have hs : Fr.scode l = 101 := by unfold Fr.scode; rw [if_neg hw, if_pos (by omega)]
          go_wp2
          go_quiet (fail)
          go_wp2
          go_ret2
          exact ⟨_, rfl, SeenBy.err 101 x hka (by decide), below_drewN hbw _⟩
        · obtain ⟨b, off, he, hb, hcl⟩ := (hr.below hbw (Nat.le_refl _)).2 (by omega)
          obtain rfl := Option.some.inj he
          have c4 := hcl 4 (bv (l.getD 4 0)) (by simp [List.getD, List.getElem?_eq_getElem (show 4 < l.length by omega)])
          have c5 := hcl 5 (bv (l.getD 5 0)) (by simp [List.getD, List.getElem?_eq_getElem (show 5 < l.length by omega)])
          clear hcl
          have hv := two_bytes (l.getD 4 0) (l.getD 5 0)
          rw [show (l.getD 4 0).toNat + 256 * (l.getD 5 0).toNat = Fr.blen l from rfl] at hv
          obtain ⟨k, hk⟩ : ∃ k, k = Fr.blen l := ⟨_, rfl⟩
          have HB := Lib.hid hk
          have hk2 : k < 65536 := by have := (l.getD 4 0).toNat_lt; have := (l.getD 5 0).toNat_lt; unfold Fr.blen at hk; omega
          rw [← hk] at hv
          clear hk
          generalize l.getD 4 0 = x4 at *
          generalize l.getD 5 0 = x5 at *
          unfold bv at c4 c5
          have e1 : wrap64 (6 + (k : Int)) = 6 + (k : Int) := by unfold wrap64; omega
          have e2 : wrap64 (6 + (k : Int) + 4) = 6 + (k : Int) + 4 := by unfold wrap64; omega
          by_cases hb1 : 4000 < k
          · obtain ⟨x, hka, hg⟩ := (hE.below hbw).e102
            have hs : Fr.scode l = 102 := by unfold Fr.scode; rw [if_neg hw, if_neg (by omega), if_pos (by rw [← HB.out]; exact hb1)]
            clear hw hw'
            go_wp2
            go_quiet (fail)
            go_wp2
            go_quiet (fail)
            go_wp2
            go_ret2
            exact ⟨_, rfl, SeenBy.err 102 x hka (by decide), below_drewN hbw _⟩
          · by_cases hb2 : n < k + 10
            · obtain ⟨x, hka, hg⟩ := (hE.below hbw).e101
              have hs : Fr.scode l = 101 := by unfold Fr.scode; rw [if_neg hw, if_neg (by omega), if_neg (by rw [← HB.out]; exact hb1), if_pos (by rw [← HB.out]; omega)]
              clear hw hw'
              go_wp2
              go_quiet (fail)
              go_wp2
              go_quiet (fail)
              go_wp2
              go_ret2
              exact ⟨_, rfl, SeenBy.err 101 x hka (by decide), below_drewN hbw _⟩
            · have hs : Fr.scode l = 0 := by unfold Fr.scode; rw [if_neg hw, if_neg (by omega), if_neg (by rw [← HB.out]; exact hb1), if_neg (by rw [← HB.out]; omega)]
              clear hw hw'
              go_wp2
              go_quiet (fail)
              go_wp2
              go_ret2
              rw [← HB.out]
              exact ⟨_, by rw [show (k : Int) + 10 = 6 + (k : Int) + 4 from by omega]; rfl, SeenBy.nil, below_drewN hbw _⟩

set_option maxHeartbeats 1600000 in
theorem fsize_nil (hE : FrErrs w E) :
    Calls Tryd.prog 20 #[.slice none 0 0] w fun e w' => ∃ ev, e = .returned (.tuple #[.int .i64 0, ev]) ∧ SeenBy E ev 101 ∧ Below w.heap.size w w' := by
  obtain ⟨x, hka, hg⟩ := hE.e101
  have hs0 : (!([] : List UInt8) == ((⟨#[76, 104, 1]⟩ : ByteArray).extract 0 0).toList) = false := wrong_str []
  have hcv : ∀ m, (convert 25 9 (.slice none 0 0)).run Tryd.prog (w.drewN m) = .ok (.string ⟨([] : List UInt8).toArray⟩) (w.drewN m) := fun m =>
    Bytes.string (Bytes.nil (w.drewN m) 0 none) (fun _ => rfl) 0 25 9 5 Tryd.underlying25 Tryd.underlying5 Tryd.underlying9
  go_enter Tryd.func20, Tryd.ntmps20
  go_wp2
  go_quiet (fail)
  go_wp2
  go_quiet (fail)
  go_wp2
  go_ret2
  exact ⟨_, rfl, SeenBy.err 101 x hka (by decide), below_drewN (below_drewN (Below.refl _ _) _) _⟩

set_option maxHeartbeats 1600000 in
theorem fread_nil (hE : FrErrs w E) :
    Calls Tryd.prog 16 #[.slice none 0 0] w fun e w' => ∃ ev, e = .returned (.tuple #[.int .u8 0, .slice none 0 0, .int .i64 0, ev]) ∧ SeenBy E ev 101 ∧ Below w.heap.size w w' := by
  go_enter Tryd.func16, Tryd.ntmps16
  go_wp2_with fail
  refine (fsize_nil hE).mono ?_
  rintro e w1 ⟨ev, rfl, hs, hb1⟩
  obtain ⟨x, rfl⟩ := seen_not hs (by decide)
  unfold errV at *
  go_wp2
  ((try simp only [Exit.inBlock, Exit.then]); refine bodyPost_ret (results_tmp4 rfl _ _ _) rfl ?_)
  exact ⟨_, rfl, hs, hb1⟩

set_option maxHeartbeats 1600000 in
theorem fread_any (a : Addr) (n c : Nat) (l : List UInt8) (hE : FrErrs w E) (ht : Steps w) (hr : Bytes w w.heap.size (some a) n l) (hn : n ≤ c) (hc : n ≤ 70368744177664) :
    Calls Tryd.prog 16 #[.slice (some a) n c] w fun e w' => ∃ A' c' ev, e = .returned (.tuple #[.int .u8 ((Fr.said l).1.toNat : Int), .slice A' (Fr.said l).2.1.length c', .int .i64 ((Fr.said l).2.2 : Int), ev]) ∧
      SeenBy E ev (Fr.code l) ∧ OwnBytes w' w.heap.size 5 A' (Fr.said l).2.1.length c' (Fr.said l).2.1 ∧ Below w.heap.size w w' := by
  have hl := hr.len
  by_cases h0 : Fr.scode l = 0
  · obtain ⟨hw, hb4, hbl⟩ := Fr.scode_zero h0
    have hz := fsize_any a n c l hE hr hn hc
    rw [h0, if_pos rfl] at hz
    obtain ⟨k, hk⟩ : ∃ k, k = Fr.blen l := ⟨_, rfl⟩
    rw [← hk] at hz hb4 hbl
    have hkl := Fr.body_len h0
    rw [← hk] at hkl
    have hfit : Fr.fits l = ((l.drop (k + 6)).take 4 == Crc.four (Crc.sum (l.take (k + 6)))) := by rw [hk]; rfl
    obtain ⟨b, off, he, hb, hcl⟩ := hr.2 (by omega)
    obtain rfl := Option.some.inj he
    have c3 : w.cell? ⟨b, off + 3, none⟩ = some (bv (Fr.kind l)) := hcl 3 _ (by simp [Fr.kind, List.getD, List.getElem?_eq_getElem (show 3 < l.length by omega)])
    unfold bv at c3
    clear hcl
    have HF := Lib.hid hfit.symm
    have HB : Hid ((l.drop 6).take k = Fr.body l ∧ k = Fr.blen l) := Lib.hid ⟨by rw [hk]; rfl, hk⟩
    have HK := Lib.hid hkl
    clear hfit hkl hk hw
    generalize hkd : Fr.kind l = kd at *
    have hP : ∀ Q : Ending → World → Prop, (∀ e w', (∃ A' c' ev, e = .returned (.tuple #[.int .u8 (kd.toNat : Int), .slice A' k c', .int .i64 ((k : Int) + 10), ev]) ∧ ev = .nilIface ∧ Fr.fits l = true ∧
        OwnBytes w' w.heap.size 5 A' k c' ((l.drop 6).take k) ∧ Below w.heap.size w w') ∨ (∃ ev, e = .returned (.tuple #[.int .u8 0, .slice none 0 0, .int .i64 0, ev]) ∧ SeenBy E ev 103 ∧ Fr.fits l = false ∧ Below w.heap.size w w') → Q e w') →
        Calls Tryd.prog 16 #[.slice (some ⟨b, off, none⟩) n c] w Q := by
      intro Q hQ
      have HQ := Lib.hid hQ
      clear hQ
      go_enter Tryd.func16, Tryd.ntmps16
      go_wp2_with fail
      refine hz.mono ?_
      rintro e w1 ⟨ev, rfl, hs, hb1⟩
      obtain rfl := seen_nil hs
      have hr1 := (((hr.below hb1 (Nat.le_refl _)).mono hb1.size).front (k := k + 6) (by omega)).drew
      have hr2 := (((hr.below hb1 (Nat.le_refl _)).mono hb1.size).part (i := k + 6) (k := 4) (by omega)).drew
      have hd := ((ht.below hb1 (Nat.le_refl _)).below (Below.refl w1.heap.size w1).drew (Nat.le_refl _))
      have hh : (k : Int) + 10 - 4 = (k : Int) + 6 := by omega
      have j1 : (0 : Int) ≤ (k : Int) + 6 := by omega
      have j2 : (k : Int) + 6 ≤ (c : Int) := by omega
      have j3 : (k : Int) + 10 ≤ (c : Int) := by omega
      have j5 : ¬ c = k + 6 := by omega
      have t6 : ((k : Int) + 6).toNat = k + 6 := by omega
      have t10 : ((k : Int) + 10).toNat = k + 10 := by omega
      have d4 : k + 10 - (k + 6) = 4 := by omega
      have d0 : k + 6 - 6 = k := by omega
      have j6 : ¬ c = 6 := by omega
      have j7 : (3 : Int) < (n : Int) := by omega
      have j8 : (6 : Int) ≤ (k : Int) + 6 := by omega
      go_upto_region 5 with (fail)
      go_cut [28] (fun s28 wx => s28 = .bool (!(Fr.fits l)) ∧ Below w1.heap.size w1 wx)
      case first =>
        go_region_held3 (fun _ => True) (exact trivial) (first
          | (go_at_call 19; refine (fsum_any _ (k + 6) c _ _ hr1 (by omega) hd).mono ?_; rintro e w2 ⟨A2, rfl, ho2, hb2⟩)
          | (go_at_call 21; refine (equal_any _ A2 4 4 _ 4 _ _ _ w1.heap.size _ (hr2.below hb2 (Nat.le_refl _)) (fun h => by cases h) ho2.bytes (fun h => (ho2.nn h).1)).mono ?_; rintro e w3 ⟨rfl, rfl⟩))
        all_goals (go_wp2_with fail; go_meet; exact ⟨by rw [← HF.out], (Below.refl _ _).drew.trans hb2⟩)
      case rest =>
        obtain ⟨rfl, hbw⟩ := hcut
        have hb2 := hb1.trans (hbw.mono hb1.size)
        by_cases hf : Fr.fits l = true
        · rw [hf]
          have hc3 : wc.cell? ⟨b, off + 3, none⟩ = some (.int .u8 (kd.toNat : Int)) := (hb2.cell (p := ⟨b, off + 3, none⟩) hb).trans c3
          have hr3 := (((hr.below hb2 (Nat.le_refl _)).mono hb2.size).part (i := 6) (k := k) (by omega)).drew
          have hc3d : wc.drew.cell? ⟨b, off + 3, none⟩ = some (.int .u8 (kd.toNat : Int)) := by simpa using hc3
          have hsz : wc.drew.heap.size = wc.heap.size := rfl
          go_wp2_with fail
          go_region_held3 (fun w' => w'.cell? ⟨b, off + 3, none⟩ = some (.int .u8 (kd.toNat : Int))) (first | exact c3x | exact hc3d) (first
            | (go_at_call 22; refine (clone_any _ k _ _ _ hr3 (fun h => by cases h) (by omega)).mono ?_; rintro e w3 ⟨A3, c4, rfl, ho3, hb3⟩; have c3x := (hb3.cell (p := ⟨b, off + 3, none⟩) (Nat.lt_of_lt_of_le hb hb2.size)).trans hc3d))
          all_goals
            go_wp2_with fail
            ((try simp only [Exit.inBlock, Exit.then]); refine bodyPost_ret (results_tmp4 rfl _ _ _) rfl ?_)
            exact HQ.out _ _ (.inl ⟨A3, c4, _, rfl, rfl, hf, ho3.base hb2.size, hb2.trans ((Below.refl _ _).drew.trans (hb3.mono hb2.size))⟩)
        · have hf' : Fr.fits l = false := by simpa using hf
          have hE2 := (hE.below hb1).below hbw
          obtain ⟨x, hka, hg⟩ := hE2.e103
          rw [hf']
          go_wp2
          go_quiet (fail)
          go_wp2
          ((try simp only [Exit.inBlock, Exit.then]); refine bodyPost_ret (results_tmp4 rfl _ _ _) rfl ?_)
          exact HQ.out _ _ (.inr ⟨_, rfl, SeenBy.err 103 x hka (by decide), hf', below_drewN hb2 _⟩)
    refine hP _ fun e w' h => ?_
    rcases h with ⟨A', c', ev, rfl, rfl, hf, ho, hb'⟩ | ⟨ev, rfl, hs, hf, hb'⟩
    · rw [Fr.said_yes (Fr.code_fine h0 hf), Fr.code_fine h0 hf]
      have h1 := HB.out.1
      have h2 := HB.out.2
      rw [h1] at ho
      refine ⟨A', c', _, ?_, SeenBy.nil, ?_, hb'⟩
      · rw [hkd, HK.out, ← h2]; rfl
      · rw [HK.out]; exact ho
    · rw [Fr.said_not (by rw [Fr.code_sum h0 hf]; decide), Fr.code_sum h0 hf]
      exact ⟨_, _, _, rfl, hs, World.ownsRow_nil _ _ _ _, hb'⟩
  · rw [Fr.said_not (by rw [Fr.code_amiss h0]; exact h0), Fr.code_amiss h0]
    have hz := fsize_any a n c l hE hr hn hc
    rw [if_neg h0] at hz
    go_enter Tryd.func16, Tryd.ntmps16
    go_wp2_with fail
    refine hz.mono ?_
    rintro e w1 ⟨ev, rfl, hs, hb1⟩
    obtain ⟨x, rfl⟩ := seen_not hs h0
    unfold errV at *
    go_wp2
    ((try simp only [Exit.inBlock, Exit.then]); refine bodyPost_ret (results_tmp4 rfl _ _ _) rfl ?_)
    exact ⟨_, _, _, rfl, hs, World.ownsRow_nil _ _ _ _, hb1⟩

theorem fread_all (A : Option Addr) (n c : Nat) (l : List UInt8) (hE : FrErrs w E) (ht : Steps w) (hr : Bytes w w.heap.size A n l) (hA : A = none → n = 0 ∧ c = 0) (hn : n ≤ c) (hc : n ≤ 70368744177664) :
    Calls Tryd.prog 16 #[.slice A n c] w fun e w' => ∃ A' c' ev, e = .returned (.tuple #[.int .u8 ((Fr.said l).1.toNat : Int), .slice A' (Fr.said l).2.1.length c', .int .i64 ((Fr.said l).2.2 : Int), ev]) ∧
      SeenBy E ev (Fr.code l) ∧ OwnBytes w' w.heap.size 5 A' (Fr.said l).2.1.length c' (Fr.said l).2.1 ∧ Below w.heap.size w w' := by
  cases A with
  | some a => exact fread_any a n c l hE ht hr hn hc
  | none =>
    obtain ⟨rfl, rfl⟩ := hA rfl
    obtain rfl : l = [] := List.eq_nil_of_length_eq_zero hr.len
    rw [Fr.said_not (by rw [Fr.code_nil]; decide), Fr.code_nil]
    refine (fread_nil hE).mono ?_
    rintro e w1 ⟨ev, rfl, hs, hb1⟩
    exact ⟨none, 0, ev, rfl, hs, World.ownsRow_nil _ _ _ _, hb1⟩
end
end Go.Proofs.YtcgcacnlafdggaaDoor
