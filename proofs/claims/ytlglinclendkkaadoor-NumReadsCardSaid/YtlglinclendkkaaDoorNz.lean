/- The walk of NumReads. -/
import Derived.Test.YtlglinclendkkaaDoorRs
import Derived.Test.YtlglinclendkkaaDoorRp
import Derived.Test.YtlglinclendkkaaDoorNb
import Derived.Test.YtlglinclendkkaaDoorNumber
import Derived.Test.YtlglinclendkkaaDoorFrame
import Derived.Test.YtlglinclendkkaaDoorDo
import Derived.Deep.RegionHeld3
import Derived.Deep.CutBlock
namespace Go.Proofs.YtlglinclendkkaaDoor
open Go.RowKit

theorem grown_below {W w w' : World} {p : Nat} (hb : Below W.heap.size W w) (hg : w.grownBy w' (some p)) (hp : W.heap.size ≤ p) : Below W.heap.size W w' :=
  hb.grown hg hb.size (fun k hk => by cases hk; exact hp)

set_option maxRecDepth 8000 in
set_option maxHeartbeats 8000000 in
theorem numReads_walk (A : Option Addr) (n c : Nat) (bs : List UInt8) (D : Option Addr) (k d : Nat) (ds : List (Int × Int × Int)) (ads : List Addr) (w : World)
    (h0 : InBytes w A n c bs) (h1 : InRow w 3 D k d (ds.flatMap doCells)) (hbd : ∀ y ∈ ds, InDo y) (hE0 : Errs w 76 sents ads) :
    Calls Tryd.prog 3 #[.slice A n c, .slice D k d] w fun e w' => e = .returned (.bool true) ∧ Below w.heap.size w w' := by
  obtain ⟨E, hEE, hE⟩ : ∃ E, E = (fun c => if 101 ≤ c then ads[(c - 101).toNat]? else none) ∧ RdErrs w E :=
    ⟨_, rfl, errIn_of hE0 101 0 _ rfl rfl, errIn_of hE0 102 1 _ rfl rfl, errIn_of hE0 105 4 _ rfl rfl, errIn_of hE0 107 6 _ rfl rfl⟩
  have r0 := h0.bytes
  have nn0 := h0.nn
  have cap0 := h0.cap
  have most0 := h0.most
  have r1 := h1.row
  have lk : ds.length = k := by
    have := r1.1
    rw [flat_len] at this
    omega
  have ln : bs.length = n := r0.len
  have D2 := Lib.hid hbd
  clear h0 h1 hbd
  by_cases hall : n ≤ 200 ∧ k ≤ 30
  · obtain ⟨hn, hk⟩ := hall
    go_enter Tryd.func3, Tryd.ntmps3
    go_wp2_with fail
    refine (first_any w).mono ?_
    rintro e w1 ⟨rfl, hb1⟩
    go_wp2_with fail
    refine (read_any (E := E) A n c ((r0.below hb1 (Nat.le_refl _)).mono hb1.size) nn0 (by omega)).mono ?_
    rintro e w2 ⟨p, rfl, hp, hR, b2⟩
    have h2 : Below w.heap.size w w2 := hb1.trans (b2.mono hb1.size)
    have hp' : w.heap.size ≤ p := Nat.le_trans hb1.size hp
    have hw := (Below.refl w2.heap.size w2).alloc (Nat.le_refl _) (.cells #[.slice A n c, .int .i64 0] 29)
    have hh := heap_alloc_new w2 (.cells #[.slice A n c, .int .i64 0] 29)
    obtain ⟨q, hq⟩ : ∃ q, q = w2.heap.size := ⟨_, rfl⟩
    have hR3 := hR.below hw
    have h3 : Below w.heap.size w (w2.alloc (.cells #[.slice A n c, .int .i64 0] 29)) := h2.alloc h2.size _
    have hpq : p < q := by rw [hq]; exact hR.lt
    have hQ3 : RdD (w2.alloc (.cells #[.slice A n c, .int .i64 0] 29)) w.heap.size q bs 0 := by
      subst hq
      refine ⟨⟨A, n, c, cell_of_row _ w2.heap.size 0 _ _ (0, 0) hh, cell_of_row _ w2.heap.size 1 _ _ (0, 0) hh, ?_, ?_, ?_, nn0, cap0, most0, ?_⟩, h2.size⟩
      · unfold World.frozen?; rw [hh]; rfl
      · unfold World.frozen?; rw [hh]; rfl
      · exact (r0.below h3 (Nat.le_refl _)).mono h3.size
      · intro hn0 a h
        obtain ⟨b, off, he, hlt, _⟩ := r0.2 hn0
        rw [h] at he
        obtain rfl := Option.some.inj he
        exact hlt
    clear hh hw hR h2 b2
    go_wp2_with fail
    rw [← hq]
    go_loopw [8] (fun i wr => ∃ (j : Nat) (L : List UInt8) (e : Int), j ≤ k ∧ i = .int .i64 j ∧ RdC E wr p L e ∧ RdD wr w.heap.size q L e ∧ Below w.heap.size w wr) (fun i _ => k - (intOf i).toNat)
    case atStart => exact ⟨0, bs, 0, Nat.zero_le _, rfl, hR3, hQ3, h3⟩
    case round =>
      clear hR3 hQ3 h3 hq
      obtain ⟨j, L, e, hj, rfl, hR, hQ, hbw⟩ := hrel
      have hq' : w.heap.size ≤ q := hQ.low
      have hpq1 : ∀ b, b ≤ p → some q ≠ some b := fun b h e => by
        have := Option.some.inj e
        omega
      have hpq2 : some p ≠ some q := fun e => by
        have := Option.some.inj e
        omega
      have hpq3 : ∀ b, b < w.heap.size → some p ≠ some b := fun b h e => by
        have := Option.some.inj e
        omega
      by_cases hlt : j < k
      · have hj' : j < ds.length := by omega
        obtain ⟨b, off, rfl, hbb, c0, c1, c2⟩ := InRow.do_ r1 hlt hj'
        have hd := D2.out ds[j] (List.getElem_mem hj')
        generalize ds[j]'hj' = y at *
        obtain ⟨kind, a1, a2⟩ := y
        simp only at c0 c1 c2
        have c0w := (hbw.cell (p := ⟨b, off + j * 3, none⟩) hbb).trans c0
        have c1w := (hbw.cell (p := ⟨b, off + j * 3 + 1, none⟩) hbb).trans c1
        have c2w := (hbw.cell (p := ⟨b, off + j * 3 + 2, none⟩) hbb).trans c2
        go_upto_block 2 with (fail)
        go_cut [9] from 30 to 116 (fun v wx => v = .bool true ∧ ∃ L1 e1, RdC E wx p L1 e1 ∧ RdD wx w.heap.size q L1 e1 ∧ Below w.heap.size w wx)
        case first =>
          by_cases hk1 : kind = 1
          · have hkb : (kind == 1) = true := by simp [hk1]
            clear hk1
            go_wp2_with fail
            have hRd := hR.drew
            have hQd := hQ.drew
            have hbd := hbw.drew
            go_region_held3 (fun w' => w'.cell? ⟨b, off + j * 3 + 1, none⟩ = some (.int .i64 a1) ∧ w'.cell? ⟨b, off + j * 3 + 2, none⟩ = some (.int .i64 a2)) (first | exact ⟨c1y, c2y⟩ | exact ⟨c1x, c2x⟩ | exact ⟨c1w, c2w⟩) (first
              | (go_at_call 8; refine (int_any a1 a2 hE hbd hp' hRd).mono ?_; rintro v w5 ⟨rfl, hR5, hg5⟩; have hb5 := grown_below hbd hg5 hp'; have hQ5 := hQd.kept hg5 hpq2 hpq3; have c1x := (hb5.cell (p := ⟨b, off + j * 3 + 1, none⟩) hbb).trans c1; have c2x := (hb5.cell (p := ⟨b, off + j * 3 + 2, none⟩) hbb).trans c2)
              | (go_at_call 9; refine (refInt_any a1 a2 hQ5).mono ?_; rintro v w6 ⟨rfl, hQ6, hg6⟩; have hb6 := grown_below hb5 hg6 hq'; have hR6 := hR5.kept hg6 hpq1; have c1y := (hb6.cell (p := ⟨b, off + j * 3 + 1, none⟩) hbb).trans c1; have c2y := (hb6.cell (p := ⟨b, off + j * 3 + 2, none⟩) hbb).trans c2))
            go_wp2_with fail
            go_meet
            exact ⟨by simp, _, _, hR6, hQ6, hb6⟩
          · have hkb : (kind == 1) = false := by simp [hk1]
            by_cases hk2 : kind = 2
            · have hkb2 : (kind == 2) = true := by simp [hk2]
              clear hk1 hk2
              go_wp2_with fail
              refine (number_any a1 300 _ (by decide) hd.a0 hd.a1 (by decide)).mono ?_
              rintro v wx ⟨⟨m, rfl, hm⟩, rfl⟩
              have hT1 := text_any (m : Int) hE hbw hp' hR
              go_wp2_with fail
              refine hT1.mono ?_
              rintro v w5 ⟨rfl, hR5, hg5⟩
              have hb5 := grown_below hbw hg5 hp'
              have hQ5 := hQ.kept hg5 hpq2 hpq3
              go_wp2_with fail
              refine (refText_any (m : Int) hQ5).mono ?_
              rintro v w6 ⟨rfl, hQ6, hg6⟩
              have hb6 := grown_below hb5 hg6 hq'
              have hR6 := hR5.kept hg6 hpq1
              go_wp2_with fail
              go_meet
              exact ⟨by simp, _, _, hR6, hQ6, hb6⟩
            · have hkb2 : (kind == 2) = false := by simp [hk2]
              clear hk1 hk2
              have hT1 := flag_any hE hbw hp' hR
              go_wp2_with fail
              refine hT1.mono ?_
              rintro v w5 ⟨rfl, hR5, hg5⟩
              have hb5 := grown_below hbw hg5 hp'
              have hQ5 := hQ.kept hg5 hpq2 hpq3
              go_wp2_with fail
              refine (refFlag_any hQ5).mono ?_
              rintro v w6 ⟨rfl, hQ6, hg6⟩
              have hb6 := grown_below hb5 hg6 hq'
              have hR6 := hR5.kept hg6 hpq1
              go_wp2_with fail
              go_meet
              exact ⟨by simp, _, _, hR6, hQ6, hb6⟩
        case rest =>
          obtain ⟨rfl, L1, e1, hR6, hQ6, hb6⟩ := hcut
          clear hR hQ hbw c0w c1w c2w
          go_upto_region 21 with (fail)
          go_cut [116] from 30 to 116 (fun v wx => v = .bool false ∧ RdC E wx p L1 e1 ∧ RdD wx w.heap.size q L1 e1 ∧ Below w.heap.size w wx)
          case first =>
            obtain ⟨A', n', c', g0, g1, _, _, hrq, _⟩ := hQ6.ex
            have hql := hQ6.lt
            have hlq := hrq.len
            have hRd := hR6.drew
            have hQd := hQ6.drew
            have hbd := hb6.drew
            by_cases he : e1 = 0
            · subst he
              clear hrq
              go_region_held3 (fun w' => w'.cell? ⟨q, 0, none⟩ = some (.slice A' n' c') ∧ w'.cell? ⟨q, 1, none⟩ = some (.int .i64 0)) (first | exact ⟨g0', g1'⟩ | exact ⟨g0, g1⟩) (first
                | (go_at_call 16; refine (err_any hRd).mono ?_; rintro v wy ⟨⟨ev, rfl, hs⟩, rfl⟩; rw [hEE] at hs)
                | (go_at_call 15; refine (is_any ads ev 0 _ (hE0.below hbd (Nat.le_refl _)) (seenAs_of hs) 0).mono ?_; rintro v w7 ⟨rfl, b7⟩; have g0' := (b7.cell (p := ⟨q, 0, none⟩) hql).trans g0; have g1' := (b7.cell (p := ⟨q, 1, none⟩) hql).trans g1)
                | (go_at_call 17; refine (left_any (hRd.below b7)).mono ?_; rintro v w8 ⟨rfl, rfl⟩; rw [hlq]))
              all_goals
                go_wp2_with fail
                go_meet
                exact ⟨by simp, hRd.below b7, hQd.below b7, hbd.trans (b7.mono hbd.size)⟩
            · have heb : (e1 == 0) = false := by simp [he]
              have hed : decide (e1 = 0) = false := decide_eq_false he
              clear hrq
              refine wp_region_held_drew (S := (fun w' => w'.cell? ⟨q, 0, none⟩ = some (.slice A' n' c') ∧ w'.cell? ⟨q, 1, none⟩ = some (.int .i64 e1))) (by kernel_rfl) ⟨g0, g1⟩ (fun hHeld => ?_)
              refine wpAnyH_take (i := 0) (oi := { dst := some 88, op := Go.Op.move (Go.Operand.tmp 9), type := 4, pos := "law.go:78", after := #[], guard := none }) (v := ?_) rfl (by kernel_rfl) (by kernel_rfl) (by kernel_rfl) (fun _ _ _ h => h) (Or.inl ⟨by rfl, ?_⟩) (by assumption) ?_
              rotate_left
              · (intro w hSw; (try dsimp only at hSw); go_simp)
                all_goals with_reducible rfl
              try simp only [Act.put, List.setIfInBounds_toArray, List.set_cons_zero, List.set_cons_succ]
              refine wpAnyH_take (i := 1) (oi := { dst := some 89, op := Go.Op.unOp Go.UnOp.not 4 (Go.Operand.tmp 88), type := 4, pos := "law.go:78", after := #[{ on := 0, ground := Go.Ground.data }], guard := none }) (v := ?_) rfl (by kernel_rfl) (by kernel_rfl) (by kernel_rfl) (fun _ _ _ h => h) (Or.inl ⟨by rfl, ?_⟩) (by assumption) ?_
              rotate_left
              · (intro w hSw; (try dsimp only at hSw); go_simp)
                all_goals with_reducible rfl
              try simp only [Act.put, List.setIfInBounds_toArray, List.set_cons_zero, List.set_cons_succ]
              refine wpAnyH_take (i := 2) (oi := { dst := some 90, op := Go.Op.move (Go.Operand.tmp 89), type := 4, pos := "law.go:78", after := #[{ on := 1, ground := Go.Ground.data }], guard := none }) (v := ?_) rfl (by kernel_rfl) (by kernel_rfl) (by kernel_rfl) (fun _ _ _ h => h) (Or.inl ⟨by rfl, ?_⟩) (by assumption) ?_
              rotate_left
              · (intro w hSw; (try dsimp only at hSw); go_simp)
                all_goals with_reducible rfl
              try simp only [Act.put, List.setIfInBounds_toArray, List.set_cons_zero, List.set_cons_succ]
              refine wpAnyH_take (i := 3) (oi := { dst := some 91, op := Go.Op.move (Go.Operand.tmp 6), type := 25, pos := "law.go:78", after := #[{ on := 2, ground := Go.Ground.guard }], guard := some (2, false) }) (v := ?_) rfl (by kernel_rfl) (by kernel_rfl) (by kernel_rfl) (fun _ _ _ h => h) (Or.inl ⟨by rfl, ?_⟩) (by assumption) ?_
              rotate_left
              · (intro w hSw; (try dsimp only at hSw); go_simp)
                all_goals with_reducible rfl
              try simp only [Act.put, List.setIfInBounds_toArray, List.set_cons_zero, List.set_cons_succ]
              refine wpAnyH_take (i := 5) (oi := { dst := some 93, op := Go.Op.move (Go.Operand.tmp 7), type := 27, pos := "law.go:78", after := #[{ on := 2, ground := Go.Ground.guard }], guard := some (2, false) }) (v := ?_) rfl (by kernel_rfl) (by kernel_rfl) (by kernel_rfl) (fun _ _ _ h => h) (Or.inl ⟨by rfl, ?_⟩) (by assumption) ?_
              rotate_left
              · (intro w hSw; (try dsimp only at hSw); go_simp)
                all_goals with_reducible rfl
              try simp only [Act.put, List.setIfInBounds_toArray, List.set_cons_zero, List.set_cons_succ]
              refine wpAnyH_take (i := 6) (oi := { dst := some 94, op := Go.Op.nilCheck (Go.Operand.tmp 93), type := 0, pos := "law.go:78", after := #[{ on := 5, ground := Go.Ground.data }, { on := 2, ground := Go.Ground.guard }], guard := some (2, false) }) (v := ?_) rfl (by kernel_rfl) (by kernel_rfl) (by kernel_rfl) (fun _ _ _ h => h) (Or.inl ⟨by rfl, ?_⟩) (by assumption) ?_
              rotate_left
              · (intro w hSw; (try dsimp only at hSw); go_simp)
                all_goals with_reducible rfl
              try simp only [Act.put, List.setIfInBounds_toArray, List.set_cons_zero, List.set_cons_succ]
              refine wpAnyH_take (i := 7) (oi := { dst := some 95, op := Go.Op.fieldAddr 29 (Go.Operand.tmp 94) 1, type := 0, pos := "law.go:78", after := #[{ on := 6, ground := Go.Ground.data }, { on := 2, ground := Go.Ground.guard }], guard := some (2, false) }) (v := ?_) rfl (by kernel_rfl) (by kernel_rfl) (by kernel_rfl) (fun _ _ _ h => h) (Or.inl ⟨by rfl, ?_⟩) (by assumption) ?_
              rotate_left
              · (intro w hSw; (try dsimp only at hSw); go_simp)
                all_goals with_reducible rfl
              try simp only [Act.put, List.setIfInBounds_toArray, List.set_cons_zero, List.set_cons_succ]
              refine wpAnyH_take (i := 8) (oi := { dst := some 96, op := Go.Op.load 3 (Go.Operand.tmp 95), type := 3, pos := "law.go:78", after := #[{ on := 7, ground := Go.Ground.data }, { on := 2, ground := Go.Ground.guard }], guard := some (2, false) }) (v := ?_) rfl (by kernel_rfl) (by kernel_rfl) (by kernel_rfl) (fun _ _ _ h => h) (Or.inl ⟨by rfl, ?_⟩) (by assumption) ?_
              rotate_left
              · (intro w hSw; (try dsimp only at hSw); go_simp)
                all_goals with_reducible rfl
              try simp only [Act.put, List.setIfInBounds_toArray, List.set_cons_zero, List.set_cons_succ]
              refine wpAnyH_ready (rs := [4]) (by kernel_rfl) (by simp) ?_
              refine AllReadyH.cons rfl (fun K hK => ?_) AllReadyH.nil
              go_simp
              go_wp2_with (go_at_call 16; refine (err_any hRd).mono ?_; rintro v wy ⟨⟨ev, rfl, hs⟩, rfl⟩; rw [hEE] at hs)
              refine hK.out _ _ ⟨g0, g1⟩ (fun hHeld => ?_)
              clear hK K
              refine wpAnyH_ready (rs := [9]) (by kernel_rfl) (by simp) ?_
              refine AllReadyH.cons rfl (fun K hK => ?_) AllReadyH.nil
              go_simp
              go_wp2_with (go_at_call 15; refine (is_any ads ev e1 _ (hE0.below hbd (Nat.le_refl _)) (seenAs_of hs) e1).mono ?_; rintro v w7 ⟨rfl, b7⟩; have g0' := (b7.cell (p := ⟨q, 0, none⟩) hql).trans g0; have g1' := (b7.cell (p := ⟨q, 1, none⟩) hql).trans g1)
              refine hK.out _ _ ⟨g0', g1'⟩ (fun hHeld => ?_)
              clear hK K
              refine wpAnyH_take (i := 10) (oi := { dst := some 98, op := Go.Op.unOp Go.UnOp.not 4 (Go.Operand.tmp 97), type := 4, pos := "law.go:78", after := #[{ on := 9, ground := Go.Ground.data }, { on := 2, ground := Go.Ground.guard }], guard := some (2, false) }) (v := ?_) rfl (by kernel_rfl) (by kernel_rfl) (by kernel_rfl) (fun _ _ _ h => h) (Or.inl ⟨by rfl, ?_⟩) (by assumption) ?_
              rotate_left
              · (intro w hSw; (try dsimp only at hSw); go_simp)
                all_goals with_reducible rfl
              try simp only [Act.put, List.setIfInBounds_toArray, List.set_cons_zero, List.set_cons_succ]
              refine wpAnyH_take (i := 11) (oi := { dst := some 99, op := Go.Op.pick (Go.Operand.tmp 90) (Go.Operand.const (Go.Value.bool true)) (Go.Operand.tmp 98), type := 4, pos := "law.go:78", after := #[{ on := 2, ground := Go.Ground.data }, { on := 10, ground := Go.Ground.data }], guard := none }) (v := ?_) rfl (by kernel_rfl) (by kernel_rfl) (by kernel_rfl) (fun _ _ _ h => h) (Or.inl ⟨by rfl, ?_⟩) (by assumption) ?_
              rotate_left
              · (intro w hSw; (try dsimp only at hSw); go_simp)
                all_goals with_reducible rfl
              try simp only [Act.put, List.setIfInBounds_toArray, List.set_cons_zero, List.set_cons_succ]
              refine wpAnyH_take (i := 12) (oi := { dst := some 100, op := Go.Op.move (Go.Operand.tmp 99), type := 4, pos := "law.go:78", after := #[{ on := 11, ground := Go.Ground.data }, { on := 9, ground := Go.Ground.chain }], guard := none }) (v := ?_) rfl (by kernel_rfl) (by kernel_rfl) (by kernel_rfl) (fun _ _ _ h => h) (Or.inl ⟨by rfl, ?_⟩) (by assumption) ?_
              rotate_left
              · (intro w hSw; (try dsimp only at hSw); go_simp)
                all_goals with_reducible rfl
              try simp only [Act.put, List.setIfInBounds_toArray, List.set_cons_zero, List.set_cons_succ]
              refine wpAnyH_take (i := 13) (oi := { dst := some 101, op := Go.Op.move (Go.Operand.tmp 7), type := 27, pos := "law.go:78", after := #[{ on := 12, ground := Go.Ground.guard }], guard := some (12, false) }) (v := ?_) rfl (by kernel_rfl) (by kernel_rfl) (by kernel_rfl) (fun _ _ _ h => h) (Or.inl ⟨by rfl, ?_⟩) (by assumption) ?_
              rotate_left
              · (intro w hSw; (try dsimp only at hSw); go_simp)
                all_goals with_reducible rfl
              try simp only [Act.put, List.setIfInBounds_toArray, List.set_cons_zero, List.set_cons_succ]
              refine wpAnyH_take (i := 14) (oi := { dst := some 102, op := Go.Op.nilCheck (Go.Operand.tmp 101), type := 0, pos := "law.go:78", after := #[{ on := 13, ground := Go.Ground.data }, { on := 12, ground := Go.Ground.guard }], guard := some (12, false) }) (v := ?_) rfl (by kernel_rfl) (by kernel_rfl) (by kernel_rfl) (fun _ _ _ h => h) (Or.inl ⟨by rfl, ?_⟩) (by assumption) ?_
              rotate_left
              · (intro w hSw; (try dsimp only at hSw); go_simp)
                all_goals with_reducible rfl
              try simp only [Act.put, List.setIfInBounds_toArray, List.set_cons_zero, List.set_cons_succ]
              refine wpAnyH_take (i := 15) (oi := { dst := some 103, op := Go.Op.fieldAddr 29 (Go.Operand.tmp 102) 1, type := 0, pos := "law.go:78", after := #[{ on := 14, ground := Go.Ground.data }, { on := 12, ground := Go.Ground.guard }], guard := some (12, false) }) (v := ?_) rfl (by kernel_rfl) (by kernel_rfl) (by kernel_rfl) (fun _ _ _ h => h) (Or.inl ⟨by rfl, ?_⟩) (by assumption) ?_
              rotate_left
              · (intro w hSw; (try dsimp only at hSw); go_simp)
                all_goals with_reducible rfl
              try simp only [Act.put, List.setIfInBounds_toArray, List.set_cons_zero, List.set_cons_succ]
              refine wpAnyH_take (i := 16) (oi := { dst := some 104, op := Go.Op.load 3 (Go.Operand.tmp 103), type := 3, pos := "law.go:78", after := #[{ on := 15, ground := Go.Ground.data }, { on := 12, ground := Go.Ground.guard }], guard := some (12, false) }) (v := ?_) rfl (by kernel_rfl) (by kernel_rfl) (by kernel_rfl) (fun _ _ _ h => h) (Or.inl ⟨by rfl, ?_⟩) (by assumption) ?_
              rotate_left
              · (intro w hSw; (try dsimp only at hSw); go_simp)
                all_goals with_reducible rfl
              try simp only [Act.put, List.setIfInBounds_toArray, List.set_cons_zero, List.set_cons_succ]
              refine wpAnyH_take (i := 17) (oi := { dst := some 105, op := Go.Op.binOp Go.BinOp.eql 3 (Go.Operand.tmp 104) (Go.Operand.const (Go.Value.int Go.IntKind.i64 0)) 3, type := 4, pos := "law.go:78", after := #[{ on := 16, ground := Go.Ground.data }, { on := 12, ground := Go.Ground.guard }], guard := some (12, false) }) (v := ?_) rfl (by kernel_rfl) (by kernel_rfl) (by kernel_rfl) (fun _ _ _ h => h) (Or.inl ⟨by rfl, ?_⟩) (by assumption) ?_
              rotate_left
              · (intro w hSw; (try dsimp only at hSw); go_simp)
                all_goals with_reducible rfl
              try simp only [Act.put, List.setIfInBounds_toArray, List.set_cons_zero, List.set_cons_succ]
              refine wpAnyH_take (i := 18) (oi := { dst := some 106, op := Go.Op.move (Go.Operand.tmp 105), type := 4, pos := "law.go:78", after := #[{ on := 17, ground := Go.Ground.data }, { on := 12, ground := Go.Ground.chain }, { on := 12, ground := Go.Ground.guard }], guard := some (12, false) }) (v := ?_) rfl (by kernel_rfl) (by kernel_rfl) (by kernel_rfl) (fun _ _ _ h => h) (Or.inl ⟨by rfl, ?_⟩) (by assumption) ?_
              rotate_left
              · (intro w hSw; (try dsimp only at hSw); go_simp)
                all_goals with_reducible rfl
              try simp only [Act.put, List.setIfInBounds_toArray, List.set_cons_zero, List.set_cons_succ]
              refine wpAnyH_take (i := 19) (oi := { dst := some 107, op := Go.Op.move (Go.Operand.tmp 6), type := 25, pos := "law.go:78", after := #[{ on := 18, ground := Go.Ground.guard }], guard := some (18, true) }) (v := undef) rfl (by kernel_rfl) (by kernel_rfl) (by kernel_rfl) (fun _ _ _ h => h) (Or.inr ⟨by rfl, rfl⟩) (by assumption) ?_
              try simp only [Act.put, List.setIfInBounds_toArray, List.set_cons_zero, List.set_cons_succ]
              refine wpAnyH_take (i := 20) (oi := { dst := some 108, op := Go.Op.call { callee := Go.Callee.value (Go.Operand.func 17), args := #[Go.Operand.tmp 107], argTypes := #[25] }, type := 3, pos := "law.go:78", after := #[{ on := 19, ground := Go.Ground.data }, { on := 18, ground := Go.Ground.chain }, { on := 18, ground := Go.Ground.guard }], guard := some (18, true) }) (v := undef) rfl (by kernel_rfl) (by kernel_rfl) (by kernel_rfl) (fun _ _ _ h => h) (Or.inr ⟨by rfl, rfl⟩) (by assumption) ?_
              try simp only [Act.put, List.setIfInBounds_toArray, List.set_cons_zero, List.set_cons_succ]
              refine wpAnyH_take (i := 21) (oi := { dst := some 109, op := Go.Op.move (Go.Operand.tmp 7), type := 27, pos := "law.go:78", after := #[{ on := 18, ground := Go.Ground.guard }], guard := some (18, true) }) (v := undef) rfl (by kernel_rfl) (by kernel_rfl) (by kernel_rfl) (fun _ _ _ h => h) (Or.inr ⟨by rfl, rfl⟩) (by assumption) ?_
              try simp only [Act.put, List.setIfInBounds_toArray, List.set_cons_zero, List.set_cons_succ]
              refine wpAnyH_take (i := 22) (oi := { dst := some 110, op := Go.Op.nilCheck (Go.Operand.tmp 109), type := 0, pos := "law.go:78", after := #[{ on := 21, ground := Go.Ground.data }, { on := 18, ground := Go.Ground.guard }], guard := some (18, true) }) (v := undef) rfl (by kernel_rfl) (by kernel_rfl) (by kernel_rfl) (fun _ _ _ h => h) (Or.inr ⟨by rfl, rfl⟩) (by assumption) ?_
              try simp only [Act.put, List.setIfInBounds_toArray, List.set_cons_zero, List.set_cons_succ]
              refine wpAnyH_take (i := 23) (oi := { dst := some 111, op := Go.Op.fieldAddr 29 (Go.Operand.tmp 110) 0, type := 0, pos := "law.go:78", after := #[{ on := 22, ground := Go.Ground.data }, { on := 18, ground := Go.Ground.guard }], guard := some (18, true) }) (v := undef) rfl (by kernel_rfl) (by kernel_rfl) (by kernel_rfl) (fun _ _ _ h => h) (Or.inr ⟨by rfl, rfl⟩) (by assumption) ?_
              try simp only [Act.put, List.setIfInBounds_toArray, List.set_cons_zero, List.set_cons_succ]
              refine wpAnyH_take (i := 24) (oi := { dst := some 112, op := Go.Op.load 22 (Go.Operand.tmp 111), type := 22, pos := "law.go:78", after := #[{ on := 23, ground := Go.Ground.data }, { on := 18, ground := Go.Ground.guard }], guard := some (18, true) }) (v := undef) rfl (by kernel_rfl) (by kernel_rfl) (by kernel_rfl) (fun _ _ _ h => h) (Or.inr ⟨by rfl, rfl⟩) (by assumption) ?_
              try simp only [Act.put, List.setIfInBounds_toArray, List.set_cons_zero, List.set_cons_succ]
              refine wpAnyH_take (i := 25) (oi := { dst := some 113, op := Go.Op.call { callee := Go.Callee.builtin Go.Builtin.len, args := #[Go.Operand.tmp 112], argTypes := #[22] }, type := 3, pos := "law.go:78", after := #[{ on := 24, ground := Go.Ground.data }, { on := 18, ground := Go.Ground.guard }], guard := some (18, true) }) (v := undef) rfl (by kernel_rfl) (by kernel_rfl) (by kernel_rfl) (fun _ _ _ h => h) (Or.inr ⟨by rfl, rfl⟩) (by assumption) ?_
              try simp only [Act.put, List.setIfInBounds_toArray, List.set_cons_zero, List.set_cons_succ]
              refine wpAnyH_take (i := 26) (oi := { dst := some 114, op := Go.Op.binOp Go.BinOp.neq 3 (Go.Operand.tmp 108) (Go.Operand.tmp 113) 3, type := 4, pos := "law.go:78", after := #[{ on := 20, ground := Go.Ground.data }, { on := 25, ground := Go.Ground.data }, { on := 18, ground := Go.Ground.guard }], guard := some (18, true) }) (v := undef) rfl (by kernel_rfl) (by kernel_rfl) (by kernel_rfl) (fun _ _ _ h => h) (Or.inr ⟨by rfl, rfl⟩) (by assumption) ?_
              try simp only [Act.put, List.setIfInBounds_toArray, List.set_cons_zero, List.set_cons_succ]
              refine wpAnyH_take (i := 27) (oi := { dst := some 115, op := Go.Op.pick (Go.Operand.tmp 106) (Go.Operand.tmp 114) (Go.Operand.const (Go.Value.bool false)), type := 4, pos := "law.go:78", after := #[{ on := 18, ground := Go.Ground.data }, { on := 26, ground := Go.Ground.data }, { on := 12, ground := Go.Ground.guard }], guard := some (12, false) }) (v := ?_) rfl (by kernel_rfl) (by kernel_rfl) (by kernel_rfl) (fun _ _ _ h => h) (Or.inl ⟨by rfl, ?_⟩) (by assumption) ?_
              rotate_left
              · (intro w hSw; (try dsimp only at hSw); go_simp)
                all_goals with_reducible rfl
              try simp only [Act.put, List.setIfInBounds_toArray, List.set_cons_zero, List.set_cons_succ]
              refine wpAnyH_take (i := 28) (oi := { dst := some 116, op := Go.Op.pick (Go.Operand.tmp 100) (Go.Operand.const (Go.Value.bool true)) (Go.Operand.tmp 115), type := 4, pos := "law.go:78", after := #[{ on := 12, ground := Go.Ground.data }, { on := 27, ground := Go.Ground.data }], guard := none }) (v := ?_) rfl (by kernel_rfl) (by kernel_rfl) (by kernel_rfl) (fun _ _ _ h => h) (Or.inl ⟨by rfl, ?_⟩) (by assumption) ?_
              rotate_left
              · (intro w hSw; (try dsimp only at hSw); go_simp)
                all_goals with_reducible rfl
              try simp only [Act.put, List.setIfInBounds_toArray, List.set_cons_zero, List.set_cons_succ]
              refine wpAnyH_done (by kernel_rfl) ?_ _
              go_wp2_with fail
              go_meet
              exact ⟨by simp, hRd.below b7, hQd.below b7, hbd.trans (b7.mono hbd.size)⟩
          case rest =>
            obtain ⟨rfl, hR7, hQ7, hb7⟩ := hcut
            go_wp2_with fail
            go_roundw
            case measure => simp [intOf]; omega
            case rel => exact ⟨j + 1, _, _, by omega, by go_num, hR7, hQ7, hb7⟩
      · have hD := done_any hE hbw hR
        go_wp2_with fail
        refine hD.mono ?_
        rintro v w5 ⟨⟨ev, rfl, hs⟩, rfl⟩
        rw [hEE] at hs
        go_wp2_with fail
        refine (refDone_any hQ).mono ?_
        rintro v w5 ⟨rfl, rfl⟩
        go_wp2_with fail
        refine (is_any ads ev (doneSays L e) _ (hE0.below hbw (Nat.le_refl _)) (seenAs_of hs) (doneSays L e)).mono ?_
        rintro v w6 ⟨rfl, b6⟩
        go_wp2
        go_ret
        exact ⟨by simp, hbw.trans (b6.mono hbw.size)⟩
  · go_enter Tryd.func3, Tryd.ntmps3
    go_wp2_with fail
    refine (first_any w).mono ?_
    rintro e w1 ⟨rfl, hb1⟩
    by_cases c1 : 200 < n
    · go_wp2
      go_ret
      exact ⟨rfl, hb1⟩
    have c4 : 30 < k := by omega
    clear hall
    go_wp2
    go_ret
    exact ⟨rfl, hb1⟩
end Go.Proofs.YtlglinclendkkaaDoor
