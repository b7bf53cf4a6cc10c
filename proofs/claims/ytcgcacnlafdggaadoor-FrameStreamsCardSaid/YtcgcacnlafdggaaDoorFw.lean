/- The walk of FrameStreams. -/
import Derived.Test.YtcgcacnlafdggaaDoorFn
import Derived.Test.YtcgcacnlafdggaaDoorFz
import Derived.Test.YtcgcacnlafdggaaDoorOpb
import Derived.Deep.RegionHeld3
import Derived.Deep.RegionLaw
import Derived.Deep.CutRange
namespace Go.Proofs.YtcgcacnlafdggaaDoor
open Go.RowKit

theorem Two.cell {w w' : World} {p : Nat} {q : Option Nat} (h : Two w w' p q) {a : Addr} (ha : a.block < w.heap.size) (h1 : a.block ≠ p) (h2 : q ≠ some a.block) : w'.cell? a = w.cell? a := World.cell?_of_block (h.block _ ha h1 h2)
theorem StD.two {w w' : World} {p px : Nat} {q q2 : Option Nat} {l : List UInt8} (h : StD w px q2 l) (hT : Two w w' p q) (h1 : px ≠ p) (h2 : q ≠ some px) (h3 : q2 ≠ some p) (h4 : ∀ g, q = some g → q2 ≠ some g) : StD w' px q2 l := by
  obtain ⟨A, n, c, h0, f0, hr, hA, hn, hc, hq⟩ := h.ex
  have hblk := hT.block px h.lt h1 h2
  refine ⟨⟨A, n, c, (World.cell?_of_block (a := ⟨px, 0, none⟩) hblk).trans h0, (World.frozen?_of_block (a := ⟨px, 0, none⟩) hblk).trans f0, ⟨hr.1, fun hp => ?_⟩, hA, hn, hc, hq⟩, h.apart⟩
  obtain ⟨b, off, rfl, hlt, hcl⟩ := hr.2 hp
  have hqb : q2 = some b := hq hp
  refine ⟨b, off, rfl, Nat.lt_of_lt_of_le hlt hT.size, fun k v hv => ?_⟩
  exact (hT.cell (a := ⟨b, off + k, none⟩) hlt (fun e => h3 (by rw [hqb]; exact congrArg some e)) (fun e => h4 b e hqb)).trans (hcl k v hv)

theorem own_keep {w w' : World} {base px n c : Nat} {e : TypeId} {A : Option Addr} {l : List UInt8} (h : OwnBytes w base e A n c l) (hg : w.grownBy w' (some px)) (hp : px < base) : OwnBytes w' base e A n c l :=
  World.ownsRow.kept h hg (by
    cases hb : (Value.slice A n c).ownBlock with
    | none => exact .inl rfl
    | some g =>
      refine .inr (fun h2 => ?_)
      have h3 := (World.ownsRow.lt h g hb).1
      have := Option.some.inj h2
      omega)

section
variable {P : Program}
/-- At a step of a region of open order: append onto a row of one's own, whatever the source. -/
theorem step_append_row {ops : Array Oper} {o : Oper} {a : Act} {K : Act → World → Prop} {Q : Exit → Act → World → Prop} {E : Prop} (hgd : o.guard = none) (s x : Operand) (t : TypeId)
    (ho : o.op = .call { callee := .builtin .append, args := #[s, x], argTypes := #[t, t] })
    (e : TypeId) (i : TypeInfo) (z : Value) (ht : P.underlying t = some (.slice e)) (hi : P.info? e = some i) (hz : i.zero = some z)
    (hsize : i.size = 1) (hby : i.bytes = 1) (hzs : z.cells.size = 1) (w : World)
    (base : Nat) (A1 : Option Addr) (n c1 : Nat) (xs : List UInt8) (hs : a.eval s = .slice A1 n c1) (hown : OwnBytes w base e A1 n c1 xs)
    (B : Nat) (A : Option Addr) (m c : Nat) (news : List UInt8) (hx : a.eval x = .slice A m c) (hA : A = none → m = 0 ∧ c = 0) (hr : Bytes w B A m news)
    (hmost : n + m ≤ 70368744177664) (hbase : base ≤ w.heap.size)
    (h : ∀ A2 c2 w', OwnTail w' base e A2 (n + m) c2 (xs ++ news) → w.grownBy w' (blk A1) → (blk A2 = blk A1 ∨ blk A2 = some w.heap.size) → K (a.put o.dst (.slice A2 (n + m) c2)) w') :
    if Region.wanted o (yielded ops a.tmps) = true then Oper.wp P o a w K Q else E := by
  have hw : Region.wanted o (yielded ops a.tmps) = true := by simp [Region.wanted, hgd]
  rw [if_pos hw]
  obtain ⟨A2, c2, w', hrun, h2, h3, h4⟩ := run_append_tail (P := P) w base t o.type e i z ht hi hz hsize hby hzs A1 n c1 xs (OwnTail.of_own hown) B A m c news hA hr hmost hbase
  unfold Oper.wp execOp
  simp only [ho, resolve, invoke, builtin, Sem.run_bind, Sem.run_pure, Result.andThen_ok, List.map_toArray, List.map_cons, List.map_nil, hs, hx, hrun]
  exact h A2 c2 w' h2 h3 h4
end

set_option maxRecDepth 8000 in
set_option maxHeartbeats 1000000 in
theorem frameStreams_walk (A : Option Addr) (n c : Nat) (ps : List Part) (C : Option Addr) (nc cc : Nat) (asks : List Int) (ads : List Addr) (w : World)
    (h0 : InRow w 1 A n c (ps.map Part.val)) (hp : ∀ y ∈ ps, PartIn w y) (h1 : InRow w 1 C nc cc (asks.map (Value.int .i64))) (hcu : ∀ y ∈ asks, -9223372036854775808 ≤ y ∧ y ≤ 9223372036854775807)
    (hE0 : Errs w 77 [0, 3, 2, 1] ads) (ht : Steps w) :
    Calls Tryd.prog 3 #[.slice A n c, .slice C nc cc] w fun e w' => e = .returned (.bool true) ∧ Below w.heap.size w w' := by
  obtain ⟨i0, hi0, hz0, hz1, hz2⟩ := info_parts info_u8
  obtain ⟨E, hE⟩ : ∃ E, FrErrs w E := ⟨_, frErrs4 hE0⟩
  clear hE0
  have r0 : Row w w.heap.size A n (ps.map Part.val) := h0.row
  have r1 : Row w w.heap.size C nc (asks.map (Value.int .i64)) := h1.row
  have ln : ps.length = n := by simpa using r0.len
  have lc : asks.length = nc := by simpa using r1.len
  have HP := Lib.hid hp
  have HC := Lib.hid hcu
  clear h0 h1 hp hcu
  by_cases hall : n ≤ 8 ∧ nc ≤ 8
  · obtain ⟨hn, hnc⟩ := hall
    go_enter Tryd.func3, Tryd.ntmps3
    go_wp2_with fail
    refine (first_any w ht).mono ?_
    rintro e w1 ⟨rfl, hb1⟩
    have hs1 := hb1.size
    obtain ⟨p, hp⟩ : ∃ p, p = w1.heap.size := ⟨_, rfl⟩
    have hst0 : StC (w1.alloc (.cells #[.slice none 0 0] 27)) w.heap.size p none [] := by
      subst hp
      refine ⟨⟨none, 0, 0, cell_of_row _ w1.heap.size 0 _ _ (0, 0) (heap_alloc_new w1 _), ?_, OwnTail.nil _ _ _, rfl⟩, hs1, by simp⟩
      unfold World.frozen?; rw [heap_alloc_new w1]; rfl
    have hb2 : Below w.heap.size w (w1.alloc (.cells #[.slice none 0 0] 27)) := hb1.alloc hs1 _
    go_upto_region 7 with (fail)
    rw [← hp]
    clear hp
    generalize w1.alloc (.cells #[.slice none 0 0] 27) = w2 at *
    have hs2 := hb2.size
    obtain ⟨px, hpx⟩ : ∃ px, px = w2.heap.size := ⟨_, rfl⟩
    have hsd0 : StD (w2.alloc (.cells #[.slice none 0 0] 30)) px none [] := by
      subst hpx
      refine ⟨⟨none, 0, 0, cell_of_row _ w2.heap.size 0 _ _ (0, 0) (heap_alloc_new w2 _), ?_, Bytes.nil _ _ _, fun _ => ⟨rfl, rfl⟩, Nat.le_refl _, by simp [maxLen], fun h => by omega⟩, by simp⟩
      unfold World.frozen?; rw [heap_alloc_new w2]; rfl
    have hb3 : Below w.heap.size w (w2.alloc (.cells #[.slice none 0 0] 30)) := hb2.alloc hs2 _
    have hst1 := hst0.below ((Below.refl w2.heap.size w2).alloc (Nat.le_refl _) (.cells #[.slice none 0 0] 30))
    have hppx : p < px := by rw [hpx]; exact hst0.lt
    have hwx : w.heap.size ≤ px := by rw [hpx]; exact hs2
    go_wp2_with fail
    rw [← hpx]
    clear hpx hst0 hb2 hs2 hb1 hs1
    generalize w2.alloc (.cells #[.slice none 0 0] 30) = w3 at *
    go_loopw [8] (fun i wr => ∃ (k : Nat) (m : List UInt8) (q q2 : Option Nat), k ≤ n ∧ i = .int .i64 k ∧ StC wr w.heap.size p q m ∧ StD wr px q2 m ∧ q ≠ some px ∧ q2 ≠ some p ∧ (∀ g, q = some g → q2 ≠ some g) ∧ (∀ g, q2 = some g → w.heap.size ≤ g) ∧ m.length ≤ 100 * k ∧ Below w.heap.size w wr) (fun i _ => n - (intOf i).toNat)
    case atStart => exact ⟨0, [], none, none, Nat.zero_le _, rfl, hst1, hsd0, by simp, by simp, (fun _ h => by cases h), (fun _ h => by cases h), by simp, hb3⟩
    case round =>
      obtain ⟨k, m, q, q2, hk, rfl, hst, hsd, hqx, hq2p, hqq, hq2w, hml, hbw⟩ := hrel
      clear hst1 hsd0 hb3
      by_cases hkn : k < n
      · have hk' : k < ps.length := by omega
        obtain ⟨b, off, rfl, hb, hc0⟩ := r0.2 (by omega)
        have hc1 : w.cell? ⟨b, off + k, none⟩ = some (ps[k].val) := hc0 k _ (by simp [hk'])
        have hP := HP.out ps[k] (List.getElem_mem hk')
        clear hc0
        generalize ps[k]'hk' = P at *
        obtain ⟨pa, pn, pc, pl⟩ := P
        have hP' : InBytes w pa pn pc pl := hP
        have hc1' : w.cell? ⟨b, off + k, none⟩ = some (.slice pa pn pc) := hc1
        have hc2 := (hbw.cell (p := ⟨b, off + k, none⟩) hb).trans hc1'
        clear hP hc1
        have hpl := hP'.bytes.len
        by_cases h100 : 100 < pn
        · go_wp2
          go_ret
          exact ⟨rfl, hbw⟩
        · have hlow := hst.low
          have hfeed := feed_any hst w.heap.size pa pn pc pl hP'.nn (hP'.bytes.below hbw (Nat.le_refl _)) (by omega) hbw.size
          go_wp2_with fail
          refine hfeed.mono ?_
          rintro e w6 ⟨rfl, ⟨q6, hst6, hq6⟩, hTwo⟩
          have hbw6 : Below w.heap.size w w6 := hTwo.below hbw (Nat.le_refl _) hlow (fun g e => (hst.qlt g e).1)
          have hsd6 := hsd.two hTwo (by omega) hqx hq2p hqq
          have hpxl := hsd.lt
          have hq6x : q6 ≠ some px := by
            rcases hq6 with h | h <;> rw [h]
            · exact hqx
            · intro e; have := Option.some.inj e; omega
          clear hfeed hTwo hq6 hst hsd hc2 hqx hqq hpxl
          obtain ⟨Ax, nx, cx, g0, gf0, hrx, hAx, hncx, hmx, hqx2⟩ := hsd6.ex
          have hlx := hrx.len
          have hc6 := (hbw6.cell (p := ⟨b, off + k, none⟩) hb).trans hc1'
          have hpxl := hsd6.lt
          have hr6 := (hP'.bytes.below hbw6 (Nat.le_refl _))
          go_upto_region 14 with (fail)
          have hnx : nx ≤ 70368744177664 := by omega
          have hsz6 : w6.drew.heap.size = w6.heap.size := rfl
          have hrxd : Bytes w6.drew w6.drew.heap.size Ax nx m := hrx.drew
          have g0d : w6.drew.cell? ⟨px, 0, none⟩ = some (.slice Ax nx cx) := by simpa using g0
          have c0d : w6.drew.cell? ⟨b, off + k, none⟩ = some (.slice pa pn pc) := by simpa using hc6
          have f0d : w6.drew.frozen? ⟨px, 0, none⟩ = false := by simpa using gf0
          have hb66 : w.heap.size ≤ w6.heap.size := hbw6.size
          have hst6d := hst6.drew
          have hkI : (k : Int) < (n : Int) := by omega
          go_cut [49] from 31 to 109 (fun _ wx => ∃ q2', StD wx px q2' (m ++ pl) ∧ StC wx w.heap.size p q6 (m ++ pl) ∧ q2' ≠ some p ∧ (∀ g, q6 = some g → q2' ≠ some g) ∧ (∀ g, q2' = some g → w.heap.size ≤ g) ∧ Below w.heap.size w wx)
          case first =>
            go_region_law (first
              | (go_simp; go_at_call 9; refine (refbytes_any Ax nx cx m _ hrxd hnx).mono ?_; rintro e w7 ⟨A7, c7, rfl, ho7, hb7⟩; have g1 := (hb7.cell (p := ⟨px, 0, none⟩) hpxl).trans g0d; have k1 := (hb7.cell (p := ⟨b, off + k, none⟩) (Nat.lt_of_lt_of_le hb hb66)).trans c0d; have hr7 := hr6.below ((Below.refl w6.heap.size w6).drew.trans hb7) hb66)
              | (refine step_append_row rfl (.tmp 54) (.tmp 58) 25 rfl 5 i0 _ Tryd.underlying25 hi0 hz0 hz1 hz2 rfl w7 w6.drew.heap.size A7 nx c7 m rfl ho7 w.heap.size pa pn pc pl rfl hP'.nn hr7 (by omega) hb7.size ?_; intro A8 c8 w8 ho8 hg8 hbk8; have hA7 : blk A7 ≠ some px := (fun e => by have := (ho7.lt px ((blk_own A7 nx c7).trans e)).1; omega); have hlt7 : px < w7.heap.size := Nat.lt_of_lt_of_le hpxl hb7.size; have hbk := hg8.block px hlt7 (fun e => hA7 e.symm); have g2 := (World.cell?_of_block (a := ⟨px, 0, none⟩) hbk).trans g1; have f2 := (World.frozen?_of_block (a := ⟨px, 0, none⟩) hbk).trans ((hb7.frozen (p := ⟨px, 0, none⟩) hpxl).trans f0d); have hbk2 := hg8.block b (Nat.lt_of_lt_of_le (Nat.lt_of_lt_of_le hb hb66) hb7.size) (fun e => by have := (ho7.lt b ((blk_own A7 nx c7).trans e.symm)).1; omega); have k2 := (World.cell?_of_block (a := ⟨b, off + k, none⟩) hbk2).trans k1))
            all_goals
              go_wp2_with fail
              go_meet
              have hpl6 := hst6.lt
              have hA8 : ∀ g, blk A8 = some g → w6.heap.size ≤ g := fun g e => (ho8.lt g e).1
              have hA7' : ∀ g, blk A7 = some g → w6.heap.size ≤ g := fun g e => (ho7.lt g ((blk_own A7 nx c7).trans e)).1
              refine ⟨blk A8, StD.set g2 f2 ho8.bytes ho8.nn ho8.cap ho8.most (fun e => by have := hA8 px e; omega) (fun _ => rfl), ?_, (fun e => by have := hA8 p e; omega), (fun g e1 e2 => by have := hA8 g e2; have := (hst6.qlt g e1).2; omega), (fun g e => by have := hA8 g e; omega), ?_⟩
              · exact ((hst6d.below hb7).kept hg8 (fun e => by have := hA7' p e; omega) (fun g e1 e2 => by have := hA7' g e2; have := (hst6.qlt g e1).2; omega)).kept (grown_setCell w8 ⟨px, 0, none⟩ _) (fun e => by have := Option.some.inj e; simp only at this; omega) (fun g e1 e2 => hq6x (by rw [e1]; exact e2.symm))
              · exact ((hbw6.trans (((Below.refl w6.heap.size w6).drew.trans hb7).mono hb66)).grown hg8 (Nat.le_trans hb66 hb7.size) (fun g e => by have := hA7' g e; omega)).setCell (p := ⟨px, 0, none⟩) hwx _
          case rest =>
            obtain ⟨q7, hsd7, hst7, h7p, h7q, h7w, hbw7⟩ := hcut
            have hml7 : (m ++ pl).length ≤ 100 * (k + 1) := by rw [List.length_append]; omega
            clear hst6d f0d c0d g0d hrxd hsz6 hnx hr6 hc6 hpxl hlx g0 gf0 hrx hAx hncx hmx hqx2 hsd6 hbw6 hst6 hb66 hc1' hpl hP' h100 hlow hml
            generalize m ++ pl = m1 at *
            go_upto_if 65 with (fail)
            go_cut [9] from 31 to 109 (fun s9 wx => (∃ r : Nat, s9 = .int .i64 r ∧ r ≤ 3) ∧ wx = wc)
            case first =>
              by_cases hi : k < nc
              · have hic : k < asks.length := by omega
                obtain ⟨bc, offc, rfl, hbc, hcc0⟩ := r1.2 (by omega)
                have hcc1 : w.cell? ⟨bc, offc + k, none⟩ = some (.int .i64 asks[k]) := hcc0 k _ (by simp [hic])
                have hcc := (hbw7.cell (p := ⟨bc, offc + k, none⟩) hbc).trans hcc1
                obtain ⟨k1, k2⟩ := HC.out asks[k] (List.getElem_mem hic)
                clear hcc0 hcc1
                generalize asks[k]'hic = y at *
                go_wp2_with fail
                refine (number_any y 3 wc (by omega) k1 k2 (by omega)).mono ?_
                rintro e w5 ⟨⟨r, rfl, hr⟩, rfl⟩
                go_wp2_with fail
                go_meet
                exact ⟨⟨r, rfl, by omega⟩, rfl⟩
              · go_wp2_with fail
                go_meet
                exact ⟨⟨1, rfl, by omega⟩, rfl⟩
            case rest =>
              obtain ⟨⟨r, rfl, hr3⟩, rfl⟩ := hcut
              go_wp2_with fail
              go_loopw [10] (fun i wr => ∃ (j : Nat) (m2 : List UInt8), j ≤ r ∧ i = .int .i64 j ∧ StC wr w.heap.size p q6 m2 ∧ StD wr px q7 m2 ∧ m2.length ≤ 100 * (k + 1) ∧ Below w.heap.size w wr) (fun i _ => r - (intOf i).toNat)
              case atStart => exact ⟨0, m1, Nat.zero_le _, rfl, hst7, hsd7, hml7, hbw7⟩
              case round =>
                obtain ⟨j, m2, hj, rfl, hst8, hsd8, hml8, hbw8⟩ := hrel
                clear hst7 hsd7 hml7 hbw7
                by_cases hjr : j < r
                · have hlow := hst8.low
                  have hnext := next_any hE ht hbw8 (Nat.le_refl _) hst8 (by omega)
                  have hnl := Fr.next_len m2
                  obtain ⟨kd, bd, fb, hgt⟩ : ∃ kd bd fb, Fr.got m2 = (kd, bd, fb) := ⟨_, _, _, rfl⟩
                  have hbd4 : bd.length ≤ 70368744177664 := by
                    have h1 := Fr.got_len m2
                    rw [hgt] at h1
                    have h1 : bd.length ≤ m2.length := h1
                    omega
                  have hpxr := hsd8.lt
                  rw [hgt] at hnext
                  dsimp only at hnext
                  go_wp2_with fail
                  refine hnext.mono ?_
                  rintro e w9 ⟨A9, c9, rfl, ho9, hst9, hg9⟩
                  have hbw9 : Below w.heap.size w w9 := hbw8.grown hg9 hbw8.size (fun g h => by cases h; exact hlow)
                  have hsd9 := hsd8.kept hg9 (fun e => by have := Option.some.inj e; omega) (fun g e1 e2 => h7p (by rw [e1]; exact e2.symm))
                  have hrn := refnext_any hsd9 (by omega)
                  rw [hgt] at hrn
                  dsimp only at hrn
                  clear hnext hst8 hsd8 hbw8 hg9
                  go_wp2_with fail
                  refine hrn.mono ?_
                  rintro e wd ⟨Ad, cd, rfl, hod, hsdd, hgd⟩
                  have hbwd : Below w.heap.size w wd := hbw9.grown hgd hbw9.size (fun g h => by cases h; exact hwx)
                  have hstd := hst9.kept hgd (fun e => by have := Option.some.inj e; omega) (fun g e1 e2 => hq6x (by rw [e1]; exact e2.symm))
                  have h9d : Bytes wd.drew wd.drew.heap.size A9 bd.length bd := (own_keep ho9 hgd hpxr).bytes.drew
                  have hdd : Bytes wd.drew wd.drew.heap.size Ad bd.length bd := hod.bytes.drew
                  have hml9 : (Fr.next m2).2.length ≤ 100 * (k + 1) := by omega
                  clear hrn hst9 hsd9 hbw9 hgd ho9 hod hgt hnl hml8
                  generalize (Fr.next m2).2 = m3 at *
                  obtain ⟨Ax, nx, cx, g0, gf0, hrx, hAx, hncx, hmx, hqx2⟩ := hsdd.ex
                  have hlx := hrx.len
                  have g0d : wd.drew.cell? ⟨px, 0, none⟩ = some (.slice Ax nx cx) := by simpa using g0
                  have hpxd := hsdd.lt
                  have hbb : (bd == bd) = true := by simp
                  have hsdr := hstd.drew
                  clear g0 gf0 hrx hAx hncx hmx hqx2
                  go_upto_region 23 with (fail)
                  go_cut [109] from 71 to 109 (fun s109 wx => s109 = .bool false ∧ Below wd.heap.size wd wx)
                  case first =>
                    go_region_held3 (fun w' => w'.cell? ⟨px, 0, none⟩ = some (.slice Ax nx cx)) (first | exact g1 | exact g0d) (first
                      | (go_at_call 13; refine (same_any A9 Ad bd.length bd.length c9 cd bd bd _ h9d hdd hbd4 hbd4).mono ?_; rintro e we ⟨rfl, hbe⟩; have g1 := (hbe.cell (p := ⟨px, 0, none⟩) hpxd).trans g0d)
                      | (go_at_call 14; refine (left_any (hsdr.below hbe)).mono ?_; rintro e wf ⟨rfl, rfl⟩))
                    all_goals
                      go_wp2_with fail
                      go_meet
                      exact ⟨by simp, (Below.refl _ _).drew.trans hbe⟩
                  case rest =>
                    obtain ⟨rfl, hbe⟩ := hcut
                    go_wp2
                    go_roundw
                    case rel => exact ⟨j + 1, m3, by omega, by go_num, hstd.below hbe, hsdd.below hbe, hml9, hbwd.trans (hbe.mono hbwd.size)⟩
                    case measure => simp [intOf]; omega
                · obtain rfl : j = r := by omega
                  go_wp2
                  go_roundw
                  case rel => exact ⟨k + 1, m2, q6, q7, by omega, by go_num, hst8, hsd8, hq6x, h7p, h7q, h7w, hml8, hbw8⟩
                  case measure => simp [intOf]; omega
      · have hkn' : k = n := by omega
        go_wp2
        go_ret
        exact ⟨rfl, hbw⟩
  · go_enter Tryd.func3, Tryd.ntmps3
    go_wp2_with fail
    refine (first_any w ht).mono ?_
    rintro e w1 ⟨rfl, hb1⟩
    by_cases h8 : n ≤ 8
    · have h30 : 8 < nc := by omega
      go_wp2
      go_ret
      exact ⟨rfl, hb1⟩
    · go_wp2
      go_ret
      exact ⟨rfl, hb1⟩
end Go.Proofs.YtcgcacnlafdggaaDoor
