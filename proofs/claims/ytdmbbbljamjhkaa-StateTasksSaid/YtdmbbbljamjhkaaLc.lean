/- Package queue: Put. -/
import Derived.Test.YtdmbbbljamjhkaaLb
namespace Go.Proofs.Ytdmbbbljamjhkaa
open Go.RowKit

namespace Qu
open Ls (T)
instance : Inhabited T := ⟨Ls.zero⟩
theorem t_at {w : World} {B b off n : Nat} {l : List T} (h : KRow tκ w B (some ⟨b, off, none⟩) n l) {j : Nat} (hj : j < n) :
    w.cell? ⟨b, off + j * 12, none⟩ = some (.int .i64 l[j]!.id) ∧ w.cell? ⟨b, off + j * 12 + 1, none⟩ = some (.int .i64 l[j]!.ins) ∧ w.cell? ⟨b, off + j * 12 + 2, none⟩ = some (.int .i64 l[j]!.tok) ∧ w.cell? ⟨b, off + j * 12 + 3, none⟩ = some (.int .i64 l[j]!.nod) ∧
    w.cell? ⟨b, off + j * 12 + 4, none⟩ = some (.string l[j]!.top) ∧ w.cell? ⟨b, off + j * 12 + 5, none⟩ = some (.int .i64 l[j]!.prio) ∧ w.cell? ⟨b, off + j * 12 + 6, none⟩ = some (.string l[j]!.wkr) ∧ w.cell? ⟨b, off + j * 12 + 7, none⟩ = some (.int .i64 l[j]!.epo) ∧
    w.cell? ⟨b, off + j * 12 + 8, none⟩ = some (.int .i64 l[j]!.exp) ∧ w.cell? ⟨b, off + j * 12 + 9, none⟩ = some (.int .i64 l[j]!.aft) ∧ w.cell? ⟨b, off + j * 12 + 10, none⟩ = some (.int .i64 l[j]!.ret) ∧ w.cell? ⟨b, off + j * 12 + 11, none⟩ = some (.bool l[j]!.bro) := by
  have hc := h.of (by decide) hj
  exact ⟨hc 0 _ rfl, hc 1 _ rfl, hc 2 _ rfl, hc 3 _ rfl, hc 4 _ rfl, hc 5 _ rfl, hc 6 _ rfl, hc 7 _ rfl, hc 8 _ rfl, hc 9 _ rfl, hc 10 _ rfl, hc 11 _ rfl⟩
theorem puts_succ (l : List T) {xs : List T} {j : Nat} (hj : j < xs.length) : puts l (xs.take (j + 1)) = ins xs[j]! (puts l (xs.take j)) := by
  unfold puts
  rw [List.take_succ_eq_append_getElem hj, List.foldl_append, getElem!_pos xs j hj]
  rfl
theorem Owns.made (w : World) : Owns (w.alloc (.map #[] 0)) w.heap.size [] := World.ownsMap_made w _ _ _
/-- The store into the map. -/
theorem Owns.put {w : World} {b : Nat} {l : List T} (h : Owns w b l) (ha : Asc l) (hn : l.length < maxLen) (x : T) (hx : (Lit.int .i64 x.id).wf = true) :
    ∃ w', (Instr.mapUpdate 28 (.map (some b)) (.int .i64 x.id) x.val).run Try.prog w = .ok () w' ∧ Owns w' b (ins x l) ∧ w.grownBy w' (some b) := by
  obtain ⟨w', h1, h2, h3⟩ := World.ownsMap.update h law Try.underlying28 hn (key_int hx) (taskR_mk x)
  rw [put_mapD x ha] at h2
  have h4 := own_tight h2
  rw [size_mapD] at h4
  exact ⟨w', h1, h4, h3⟩
/-- At most the queue's cell and its map turn. -/
def QS (q : Nat) (m : Option Nat) (i : Nat) : Prop := i = q ∨ m = some i
set_option maxRecDepth 10000 in
set_option maxHeartbeats 3200000 in
theorem put_any (q : Nat) (m : Option Nat) (l xs : List T) (A : Option Addr) (n c : Nat) (w : World) (hq : QuC w q m l) (hx : KRow tκ w w.heap.size A n xs) (hxw : Wf xs) (hn : l.length + n ≤ 1000000) (hab : ∀ a, A = some a → ¬ QS q m a.block) :
    Calls Try.prog 7 #[.pointer (some ⟨q, 0, none⟩), .slice A n c] w fun e w' => e = .returned (.tuple #[]) ∧ ∃ m', QuC w' q m' (puts l xs) ∧ Kp (QS q m) w w' ∧ (m' = m ∨ (m = none ∧ ∃ b, m' = some b ∧ w.heap.size ≤ b)) := by
  obtain rfl : xs.length = n := hx.len (by decide)
  have hmm := fun n w => run_makeMapH (P := Try.prog) Try.underlying28 n w
  have hqq := fun p w => run_eql_map_nil_sl (P := Try.prog) w 28 _ _ p Try.underlying28
  have c0 := hq.cel.cell 0 _ rfl
  have f0 := hq.cel.froz 0 (by simp)
  have HQ := Lib.hid hq
  have HX := Lib.hid hx
  have HXW := Lib.hid hxw
  have HN := Lib.hid hn
  have HAB := Lib.hid hab
  clear hq hx hxw hn hab
  go_enter Try.func7, Try.ntmps7
  go_upto_if 10 with (fail)
  go_cut [6] from 11 to 16 (fun s wx => s = .pointer (some ⟨q, 0, none⟩) ∧ ∃ b, Cel wx q [.map (some b)] ∧ Owns wx b l ∧ Kp (QS q m) w wx ∧ (m = some b ∨ (m = none ∧ w.heap.size ≤ b)))
  case first =>
    cases m with
    | none =>
      have hl : l = [] := by
        rcases HQ.out.own with h | ⟨b, h, _⟩
        · exact h.2
        · cases h
      subst hl
      have c1 := (HQ.out.cel.alloc (.map #[] 0)).cell 0 _ rfl
      have f1 := (HQ.out.cel.alloc (.map #[] 0)).froz 0 (by simp)
      go_wp2
      go_meet
      refine ⟨rfl, w.heap.size, (HQ.out.cel.alloc _).set (i := 0) (by simp) _, ?_, ?_, .inr (by simp)⟩
      · exact World.ownsMap.setCell (Owns.made w) (by have := HQ.out.cel.lt; show w.heap.size ≠ q; omega) _
      · exact Kp.of_grown (row := some q) (set_grown (grown_alloc w _ _) 0 _) (fun i _ e => .inl (Option.some.inj e).symm)
    | some b =>
      have ho : Owns w b l := by
        rcases HQ.out.own with h | ⟨b', h, ho⟩
        · cases h.1
        · cases h
          exact ho
      go_wp2
      go_meet
      exact ⟨rfl, b, HQ.out.cel, ho, Kp.refl _ _, .inl rfl⟩
  case rest =>
    obtain ⟨rfl, b, hc, ho, hk, hm⟩ := hcut
    have HC := Lib.hid hc
    have HO := Lib.hid ho
    have HK := Lib.hid hk
    have HM := Lib.hid hm
    clear hc ho hk hm c0 f0
    go_wp2_with fail
    go_loopw [19] (fun i wr => ∃ (j : Nat), j ≤ xs.length ∧ i = .int .i64 j ∧ Cel wr q [.map (some b)] ∧ Owns wr b (puts l (xs.take j)) ∧ Kp (QS q m) w wr) (fun i _ => xs.length - (intOf i).toNat)
    case atStart => exact ⟨0, Nat.zero_le _, rfl, HC.out, HO.out, HK.out⟩
    case round =>
      obtain ⟨j, hj, rfl, hcr, hor, hkr⟩ := hrel
      have hj0 : (0 : Int) ≤ (j : Int) := by omega
      by_cases hlt : j < xs.length
      · have hI : (j : Int) < (xs.length : Int) := by omega
        have hjn : j < 1000000 := by have h1 := HN.out; omega
        have hwj : wrap64 ((j : Int) + 1) = ((j + 1 : Nat) : Int) := by unfold wrap64; omega
        have hZ := hkr.krow HX.out (Nat.le_refl _) HAB.out
        obtain ⟨bz, oz, rfl, hbz, _⟩ := hZ.2 (by omega)
        obtain ⟨t0, t1, t2, t3, t4, t5, t6, t7, t8, t9, t10, t11⟩ := t_at hZ hlt
        have HS := Lib.hid (puts_succ l hlt)
        obtain ⟨ok1, ok2, _, ok4⟩ := puts_ok (xs := xs.take j) (fun y hy => HXW.out y (List.mem_of_mem_take hy)) HQ.out.asc HQ.out.wf
        have hlen : (puts l (xs.take j)).length < maxLen := by
          have h1 := HN.out
          rw [List.length_take] at ok4
          unfold maxLen
          omega
        have hwx : (Lit.int .i64 xs[j]!.id).wf = true := (HXW.out _ (by rw [getElem!_pos xs j hlt]; exact List.getElem_mem hlt)).1
        generalize puts l (xs.take j) = u at *
        generalize xs[j]! = x at *
        have hba : Below wr.heap.size wr (wr.alloc (.cells x.cells.toArray 39)) := (Below.refl _ _).alloc (Nat.le_refl _) _
        have hbd : Below wr.heap.size wr (wr.alloc (.cells x.cells.toArray 39)).drew := hba.drew
        have HC5 := Lib.hid (hcr.below hbd (Nat.le_refl _))
        have hca := hcr.below hba (Nat.le_refl _)
        have hta : Cel (wr.alloc (.cells x.cells.toArray 39)) wr.heap.size x.cells := Cel.lit wr x.cells.toArray 39
        have HK5 := Lib.hid (hkr.past (Kp.of_below (fun _ => False) hbd (Nat.le_refl _)) (fun _ _ h => h.elim))
        obtain ⟨w5, hrun, hown, hgr⟩ := Owns.put ((Kp.of_below (fun _ => False) hbd (Nat.le_refl _)).owns hor id) ok1 hlen x hwx
        have HO5 := Lib.hid hown
        have HG5 := Lib.hid hgr
        have hne : b ≠ q := hor.ne hcr
        clear hba hbd hZ ok1 ok2 ok4 hlen hwx hown hgr hor hkr
        obtain ⟨id, ins, tok, nod, top, prio, wkr, epo, exp, aft, ret, bro⟩ := x
        unfold T.val at hrun
        unfold T.cells at hca hta hrun HC5 HK5 HG5
        dsimp only at *
        go_upto_region 5 with (fail)
        generalize wr.alloc _ = wa at *
        obtain ⟨⟨k0, k1, k2, k3, k4, k5, k6, k7, k8, k9, k10, k11⟩, _⟩ := Ls.dz_facts hta
        have c0 := hca.cell 0 _ rfl
        clear t0 t1 t2 t3 t4 t5 t6 t7 t8 t9 t10 t11 hta hca hcr
        go_region
        go_wp2
        go_roundw
        case rel => exact ⟨j + 1, by omega, by go_num, HC5.out.kept HG5.out (fun e => hne (Option.some.inj e)), by rw [HS.out]; exact HO5.out, HK5.out.past (Kp.of_grown (S := fun i => i = b) HG5.out (fun i _ e => (Option.some.inj e).symm)) (fun i hi e => by
          subst e
          rcases HM.out with h | ⟨_, h⟩
          · exact .inr h
          · omega)⟩
        case measure =>
          simp only [intOf]
          omega
      · have : j = xs.length := by omega
        subst this
        rw [List.take_length] at hor
        go_wp2
        go_end0
        refine ⟨rfl, some b, ⟨hcr, (puts_ok HXW.out HQ.out.asc HQ.out.wf).1, (puts_ok HXW.out HQ.out.asc HQ.out.wf).2.1, .inr ⟨b, rfl, hor⟩⟩, hkr, ?_⟩
        rcases HM.out with h | ⟨h, h2⟩
        · exact .inl h.symm
        · exact .inr ⟨h, b, rfl, h2⟩
end Qu
end Go.Proofs.Ytdmbbbljamjhkaa
