/- The program's Topics: the topics of Works, each once. -/
import Derived.Test.YtjababmmcejgdaaOb
import Derived.Test.YtjababmmcejgdaaGn
import Derived.Maps.OwnSet
import Derived.StringKeys
namespace Go.Proofs.Ytjababmmcejgdaa
open Go.RowKit Go.Maps Go.WideMaps

namespace Pr
/-- Rows of texts. -/
def sκ : Cs ByteArray := ⟨1, fun x => [.string x], fun _ => rfl, fun x u hu => by obtain rfl := List.mem_singleton.1 hu; rfl⟩
theorem info_text : (Try.prog.info? 9).map (fun i => (i.zero, i.size, i.bytes)) = some (some (.string ⟨#[]⟩), 1, 16) := by kernel_rfl
/-- Is a text on the list? -/
def onL (l : List ByteArray) (t : ByteArray) : Bool := l.any fun y => y.data.toList == t.data.toList
def tpsF (l : List ByteArray) (x : Nd) : List ByteArray := if x.kind = 4 then (if onL l x.topic = true then l else l ++ [x.topic]) else l
/-- The topics of the first j nodes' Works. -/
def tpsN (p : P) (j : Nat) : List ByteArray := (p.nodes.take j).foldl tpsF []
theorem tpsN_succ (p : P) {j : Nat} (hj : j < p.n) : tpsN p (j + 1) = tpsF (tpsN p j) p.nodes[j]! := by
  have hj' : j < p.nodes.length := hj
  unfold tpsN
  rw [List.take_add_one, List.foldl_append, getElem!_pos p.nodes j hj']
  simp [hj']
theorem tpsF_len (l : List ByteArray) (x : Nd) : (tpsF l x).length ≤ l.length + 1 := by
  unfold tpsF
  split
  · split <;> simp
  · omega
theorem tpsN_len (p : P) : ∀ j, j ≤ p.n → (tpsN p j).length ≤ j
  | 0, _ => by simp [tpsN]
  | j + 1, h => by
    rw [tpsN_succ p (by omega)]
    have := tpsN_len p j (by omega)
    have := tpsF_len (tpsN p j) p.nodes[j]!
    omega
def keyL (t : ByteArray) : Lit := .string t.data.toList
def setL {H : Type} (l : List ByteArray) : DataW H := setOf (.agg []) (l.map keyL)
theorem has_setL {H : Type} (l : List ByteArray) (t : ByteArray) : Maps.has (setL (H := H) l) (keyL t) = onL l t := by
  unfold setL onL
  rw [has_setOf _ _ _ (fun y hy => by obtain ⟨_, _, rfl⟩ := List.mem_map.1 hy; trivial), List.any_map]
  rfl
theorem setL_snoc {H : Type} (l : List ByteArray) (t : ByteArray) : setL (H := H) (l ++ [t]) = (setL l).put (keyL t) (.agg []) := by
  unfold setL
  rw [List.map_append, List.map_singleton, setOf_snoc]
theorem lawS : Keyed Try.prog 9 := string_keyed Try.underlying9
theorem zeroU (w : World) : (zeroValue 51).run Try.prog w = .ok (.agg #[]) w := by kernel_rfl
set_option maxHeartbeats 3200000 in
set_option maxRecDepth 10000 in
theorem topics_any (A : Option Addr) (n c : Nat) (F : Option Addr) (m d : Nat) (p : P) (w : World) (hN : KRow Nd.κ w w.heap.size A n p.nodes) (hn : n ≤ 100000) (ht : ∀ x ∈ p.nodes, x.topic.size ≤ maxLen) :
    Calls Try.prog 9 #[.agg #[.string p.name, .slice A n c, .slice F m d]] w fun e w' =>
      (∃ (X : Option Addr) (k cc : Nat), e = .returned (.slice X k cc) ∧ OwnK sκ w' w.heap.size 9 X k cc (tpsN p p.n)) ∧ Below w.heap.size w w' := by
  obtain rfl : p.n = n := hN.len (by decide)
  have HN := Lib.hid hN
  have HT := Lib.hid (fun (j : Nat) (hj : j < p.n) => ht p.nodes[j]! (by have hj' : j < p.nodes.length := hj; rw [getElem!_pos p.nodes j hj']; exact List.getElem_mem hj'))
  have hcel := Cel.lit w #[.string p.name, .slice A p.n c, .slice F m d] 30
  obtain ⟨i0, hi0, hz0, hz1, hz2⟩ := info_parts info_text
  have hmm := @run_makeMap Try.prog
  have hbm : Below w.heap.size w ((w.alloc (.cells #[.string p.name, .slice A p.n c, .slice F m d] 30)).alloc (.map #[] 0)) := ((Below.refl _ _).alloc (Nat.le_refl _) _).alloc (by simp) _
  have hom : ((w.alloc (.cells #[.string p.name, .slice A p.n c, .slice F m d] 30)).alloc (.map #[] 0)).ownsMap Try.prog 9 (unitElem (H := Unit)) (w.alloc (.cells #[.string p.name, .slice A p.n c, .slice F m d] 30)).heap.size 0 (setL (H := Unit) []) := World.ownsMap_made _ _ _ _
  rw [size_alloc] at hom
  have HOM := Lib.hid hom
  have HBM := Lib.hid hbm
  have HC := Lib.hid (hcel.alloc (.map #[] 0))
  clear hN ht hom hbm hcel
  go_enter Try.func9, Try.ntmps9
  go_upto_region 3 with (fail)
  generalize (w.alloc _).alloc _ = wb at *
  have hsz : w.heap.size + 1 + 1 ≤ wb.heap.size := by
    obtain ⟨es, clock, h1, _⟩ := HOM.out
    exact blk_lt h1
  obtain ⟨⟨z0, z1, z2⟩, _⟩ := tri_facts HC.out
  go_wp2_with fail
  clear z0 z1 z2
  go_loopw [3, 13] (fun s k wr => ∃ (j : Nat) (X : Option Addr) (cc : Nat), j ≤ p.n ∧ k = .int .i64 j ∧ s = .slice X (tpsN p j).length cc ∧ wr.ownsMap Try.prog 9 (unitElem (H := Unit)) (w.heap.size + 1) j (setL (tpsN p j)) ∧ OwnK sκ wr (w.heap.size + 1 + 1) 9 X (tpsN p j).length cc (tpsN p j) ∧ Below w.heap.size w wr ∧ w.heap.size + 1 + 1 ≤ wr.heap.size) (fun _ k _ => p.n - (intOf k).toNat)
  case atStart => exact ⟨0, none, 0, Nat.zero_le _, rfl, rfl, HOM.out, ⟨by decide, World.ownsRow_nil _ _ _ _⟩, HBM.out, hsz⟩
  case round =>
    obtain ⟨j, X, cc, hj, rfl, rfl, hom, hoo, hbr, hsr⟩ := hrel
    have hj0 : (0 : Int) ≤ (j : Int) := by omega
    have hlen := tpsN_len p j hj
    have HOM := Lib.hid hom
    have HOO := Lib.hid hoo
    have HBR := Lib.hid hbr
    clear hom hoo hbr
    by_cases hlt : j < p.n
    · have hI : (j : Int) < (p.n : Int) := by omega
      have hsu := tpsN_succ p hlt
      obtain ⟨b, off, rfl, _, _⟩ := HN.out.2 (by omega)
      obtain ⟨x0, x1, x2, x3, x4, x5, x6, x7⟩ := nd_at (HN.out.below HBR.out (Nat.le_refl _)) hlt
      have htx := HT.out j hlt
      generalize p.nodes[j]! = x at *
      generalize tpsN p j = l at *
      have hba : Below wr.heap.size wr (wr.alloc (.cells #[.int .i64 x.kind, .string x.topic, .int .i64 x.prio, .int .i64 x.retr, .int .i64 x.dflt, .string x.code, .string x.caught, .int .i64 x.tgt] 40)) := (Below.refl _ _).alloc (Nat.le_refl _) _
      have HOMa := Lib.hid (HOM.out.alloc (.cells #[.int .i64 x.kind, .string x.topic, .int .i64 x.prio, .int .i64 x.retr, .int .i64 x.dflt, .string x.code, .string x.caught, .int .i64 x.tgt] 40))
      have HOOa := Lib.hid (HOO.out.below hba (Nat.le_refl _))
      have HBa := Lib.hid (HBR.out.alloc HBR.out.size (.cells #[.int .i64 x.kind, .string x.topic, .int .i64 x.prio, .int .i64 x.retr, .int .i64 x.dflt, .string x.code, .string x.caught, .int .i64 x.tgt] 40))
      have HCX := Lib.hid (Cel.lit wr #[.int .i64 x.kind, .string x.topic, .int .i64 x.prio, .int .i64 x.retr, .int .i64 x.dflt, .string x.code, .string x.caught, .int .i64 x.tgt] 40)
      have hsa : w.heap.size + 1 + 1 ≤ (wr.alloc (.cells #[.int .i64 x.kind, .string x.topic, .int .i64 x.prio, .int .i64 x.retr, .int .i64 x.dflt, .string x.code, .string x.caught, .int .i64 x.tgt] 40)).heap.size := by simp; omega
      clear hba HOM HOO HBR
      go_upto_region 6 with (fail)
      generalize hwc : wr.alloc _ = wc at *
      have n0 := HCX.out.cell 0 _ rfl
      have n1 := HCX.out.cell 1 _ rfl
      by_cases h4 : x.kind = 4
      · rw [h4] at n0
        unfold tpsF at hsu
        rw [if_pos h4] at hsu
        have hkey : keyOf Try.prog 9 (.string x.topic) = some (keyL x.topic) := keyOf_string_mk Try.underlying9 htx
        have hhas := has_setL (H := Unit) l x.topic
        by_cases hon : onL l x.topic = true
        · rw [if_pos hon] at hsu
          rw [hon] at hhas
          have HS := Lib.hid hsu
          clear hon h4 hsu
          go_wp2_with (first | (at_lookup; refine wpList_lookup_own_unit _ rfl _ _ 50 rfl 9 51 lawS Try.underlying50 (zeroU _) (w.heap.size + 1) j _ rfl HOMa.out _ _ rfl hkey ?_; rw [hhas]) | fail)
          go_roundw
          case measure => simp [intOf]; omega
          case rel => exact ⟨j + 1, X, cc, by omega, by go_num, by rw [HS.out], by rw [HS.out]; exact (HOMa.out.alloc _).mono (Nat.le_succ _), by rw [HS.out]; exact HOOa.out.below ((Below.refl _ _).alloc (Nat.le_refl _) _) (Nat.le_refl _), HBa.out.alloc HBa.out.size _, by simp; omega⟩
        · rw [if_neg hon] at hsu
          rw [Bool.eq_false_iff.2 hon] at hhas
          have HS := Lib.hid hsu
          clear hon h4 hsu
          have hbb : Below wc.heap.size wc (wc.alloc (.cells #[] 51)) := (Below.refl _ _).alloc (Nat.le_refl _) _
          have HOOb := Lib.hid (HOOa.out.below hbb (Nat.le_refl _))
          have HBb := Lib.hid (HBa.out.alloc HBa.out.size (.cells #[] 51))
          have HCX2 := Lib.hid (HCX.out.alloc (.cells #[] 51))
          have hsb : w.heap.size + 1 + 1 ≤ (wc.alloc (.cells #[] 51)).heap.size := by simp; omega
          have HOMb := Lib.hid (HOMa.out.alloc (.cells #[] 51))
          have hjm : j < maxLen := by unfold maxLen; omega
          clear hbb
          go_upto_region 9 with (first | (at_lookup; refine wpList_lookup_own_unit _ rfl _ _ 50 rfl 9 51 lawS Try.underlying50 (zeroU _) (w.heap.size + 1) j _ rfl HOMa.out _ _ rfl hkey ?_; rw [hhas]) | fail)
          generalize hwd : wc.alloc _ = wd at *
          clear n0 n1
          have n1 := HCX2.out.cell 1 _ rfl
          go_upto_region 10 with (first | (at_mapUpdate; refine wpList_mapUpdate_own _ rfl _ _ _ 50 rfl 9 51 lawS Try.underlying50 (unitElem (H := Unit)) (w.heap.size + 1) j _ rfl HOMb.out hjm _ _ _ rfl rfl hkey _ [] unitElem_mk ?_; intro w1 hown1 hgrow1) | fail)
          have HO1 := Lib.hid (HOOb.out.kept hgrow1 (fun a ha e => by
            have := (HOOb.out.block ha).1
            have := Option.some.inj e
            omega))
          have HB1 := Lib.hid (HBb.out.grown hgrow1 HBb.out.size (fun k hk => by cases hk; omega))
          have HCX3 := Lib.hid (HCX2.out.kept hgrow1 (fun e => by have := Option.some.inj e; omega))
          have HM1 := Lib.hid hown1
          have hs1 : w.heap.size + 1 + 1 ≤ w1.heap.size := Nat.le_trans hsb hgrow1.size
          clear hown1 hgrow1 n1
          have n1 := HCX3.out.cell 1 _ rfl
          have hba : Below w1.heap.size w1 (w1.alloc (.cells #[.string x.topic] 9)) := (Below.refl _ _).alloc (Nat.le_refl _) _
          have HOa := Lib.hid (HO1.out.below hba (Nat.le_refl _))
          have HMa := Lib.hid (HM1.out.alloc (.cells #[.string x.topic] 9))
          have HBa1 := Lib.hid (HB1.out.alloc HB1.out.size (.cells #[.string x.topic] 9))
          have HR : Hid (KRow sκ (w1.alloc (.cells #[.string x.topic] 9)) (w1.heap.size + 1) (some ⟨w1.heap.size, 0, none⟩) 1 [x.topic]) := Lib.hid (KRow.lit (κ := sκ) w1 9 [x.topic] #[.string x.topic] rfl)
          have hbase : w.heap.size + 1 + 1 ≤ (w1.alloc (.cells #[.string x.topic] 9)).heap.size := by simp; omega
          clear hba
          go_wp2_with (at_builtin; refine append_k (κ := sκ) rfl (.tmp 33) (.tmp 36) 35 9 i0 _ 16 Try.underlying35 hi0 hz0 hz1 hz2 rfl rfl _ (w.heap.size + 1 + 1) _ X l.length cc _ ⟨w1.heap.size, 0, none⟩ x.topic rfl HOa.out rfl HR.out (by omega) (by decide) hbase ?_; intro X' cc' w' ho' hg')
          have HM2 := Lib.hid (HMa.out.kept hg'.grown (fun e => by
            cases X with
            | none => cases e
            | some a =>
              have := (HOa.out.block rfl).1
              have := Option.some.inj e
              omega))
          have HB2 := Lib.hid (HBa1.out.grown hg'.grown (Nat.le_trans (by omega) hbase) (fun k hk => by
            cases X with
            | none => cases hk
            | some a =>
              have := (HOa.out.block rfl).1
              have := Option.some.inj hk
              omega))
          have hs2 : w.heap.size + 1 + 1 ≤ w'.heap.size := Nat.le_trans hbase hg'.grown.size
          have HO2 := Lib.hid ho'
          clear ho' hg'
          go_wp2_with fail
          go_roundw
          case measure => simp [intOf]; omega
          case rel => exact ⟨j + 1, X', cc', by omega, by go_num, by rw [HS.out, List.length_append]; rfl, by rw [HS.out, setL_snoc]; exact HM2.out, by rw [HS.out, List.length_append]; exact HO2.out, HB2.out, hs2⟩
      · have hxB : (x.kind == 4) = false := by rw [beq_eq_false_iff_ne]; exact h4
        unfold tpsF at hsu
        rw [if_neg h4] at hsu
        have HS := Lib.hid hsu
        generalize x.kind = kd at *
        clear h4 hsu
        go_wp2_with fail
        go_roundw
        case measure => simp [intOf]; omega
        case rel => exact ⟨j + 1, X, cc, by omega, by go_num, by rw [HS.out], by rw [HS.out]; exact HOMa.out.mono (Nat.le_succ _), by rw [HS.out]; exact HOOa.out, HBa.out, hsa⟩
    · obtain rfl : j = p.n := by omega
      have hI : ¬ ((p.n : Nat) : Int) < (p.n : Int) := by omega
      go_wp2
      go_ret
      exact ⟨⟨X, _, cc, rfl, HOO.out.lower (by omega)⟩, HBR.out⟩
end Pr
end Go.Proofs.Ytjababmmcejgdaa
