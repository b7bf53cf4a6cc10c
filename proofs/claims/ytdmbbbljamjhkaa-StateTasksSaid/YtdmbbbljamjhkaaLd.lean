/- Package queue: Get, Drop. -/
import Derived.Test.YtdmbbbljamjhkaaLq
namespace Go.Proofs.Ytdmbbbljamjhkaa
open Go.RowKit

namespace Qu
open Ls (T)
/-- The task of that ID; none: the zero value. -/
def getT (n : Int) (l : List T) : T := (l.find? (fun y => decide (y.id = n))).getD Ls.zero
theorem getT_of {l : List T} (h : Asc l) {x : T} (hx : x ∈ l) : getT x.id l = x := by
  unfold getT
  rw [find_of h hx]
  rfl
theorem zeroT (w : World) : (zeroValue 39).run Try.prog w = .ok Ls.zero.val w := by kernel_rfl
/-- 't, is := tasks[id]'. -/
theorem wpList_lookup_task {ops : Array Oper} {rest : List Oper} {o : Oper} {a : Act} {Q : Exit → Act → World → Prop} (w : World) (hg : o.guard = none) (m x : Operand) (hop : o.op = Op.lookup 28 m x true) (b : Nat) (l : List T) (n : Int) (X : T) (B : Bool)
    (hm : a.eval m = .map (some b)) (ho : Owns w b l) (hx : a.eval x = .int .i64 n) (hn : (Lit.int .i64 n).wf = true) (hX : getT n l = X) (hB : has n l = B)
    (hK : wpList Try.prog ops Q rest (a.put o.dst (.tuple #[.agg #[.int .i64 X.id, .int .i64 X.ins, .int .i64 X.tok, .int .i64 X.nod, .string X.top, .int .i64 X.prio, .string X.wkr, .int .i64 X.epo, .int .i64 X.exp, .int .i64 X.aft, .int .i64 X.ret, .bool X.bro], .bool B])) w) :
    wpList Try.prog ops Q (o :: rest) a w :=
  wpList_lookup_own_ok w hg m x 28 hop 3 39 law Try.underlying28 taskR (zeroT w) (.held Ls.zero) [] (taskR_mk Ls.zero) b l.length (mapD l) hm ho (.int .i64 n) (.int .i64 n) hx (key_int hn) (fun v ps hv => by
    obtain ⟨y, rfl, hy⟩ := taskR_inv hv
    injection hy with hy1 hy2
    rw [at_mapD] at hy1
    have e : y = X := by
      rw [← hX]
      unfold getT
      cases hf : l.find? (fun y => decide (y.id = n)) with
      | none =>
        rw [hf] at hy1
        injection hy1 with hy1
        exact hy1.symm
      | some z =>
        rw [hf] at hy1
        injection hy1 with hy1
        exact hy1.symm
    subst e
    rw [has_mapD, hB]
    exact hK)
/-- What is dropped one by one. -/
def outs (l : List T) (ns : List Int) : List T := ns.foldl (fun l n => out n l) l
theorem outs_succ (l : List T) {ns : List Int} {j : Nat} (hj : j < ns.length) : outs l (ns.take (j + 1)) = out ns[j]! (outs l (ns.take j)) := by
  unfold outs
  rw [List.take_succ_eq_append_getElem hj, List.foldl_append, getElem!_pos ns j hj]
  rfl
theorem outs_ok {ns : List Int} : ∀ {l : List T}, Asc l → Wf l → Asc (outs l ns) ∧ Wf (outs l ns) ∧ (outs l ns).length ≤ l.length := by
  induction ns with
  | nil => exact fun h1 h2 => ⟨h1, h2, Nat.le_refl _⟩
  | cons n r ih =>
    intro l h1 h2
    obtain ⟨a, b, c⟩ := ih (asc_out (n := n) h1) (wf_out (n := n) h2)
    exact ⟨a, b, Nat.le_trans c (len_out n l)⟩
theorem outs_nil (ns : List Int) : outs [] ns = [] := by
  induction ns with
  | nil => rfl
  | cons n r ih => exact ih
/-- The map or none, read as l. -/
def OwnsO (w : World) (m : Option Nat) (l : List T) : Prop := (m = none ∧ l = []) ∨ ∃ b, m = some b ∧ Owns w b l
theorem OwnsO.out {w : World} {m : Option Nat} {l : List T} (h : OwnsO w m l) (n : Int) (hn : (Lit.int .i64 n).wf = true) (ty : TypeId) :
    ∃ w', (Builtin.delete_ #[28, 3] ty #[.map m, .int .i64 n]).run Try.prog w = .ok (.tuple #[]) w' ∧ OwnsO w' m (out n l) ∧ w.grownBy w' m := by
  rcases h with ⟨rfl, rfl⟩ | ⟨b, rfl, ho⟩
  · exact ⟨w, Maps.drop_nil law Try.underlying28 (key_int hn) ty, .inl ⟨rfl, rfl⟩, World.grownBy.refl _ _⟩
  · obtain ⟨w', h1, h2, h3⟩ := World.ownsMap.drop ho law Try.underlying28 (key_int hn) ty
    rw [del_mapD] at h2
    have h4 := own_tight h2
    rw [size_mapD] at h4
    exact ⟨w', h1, .inr ⟨b, rfl, h4⟩, h3.grown⟩
theorem OwnsO.len {w : World} {m : Option Nat} {l : List T} (h : OwnsO w m l) (ty : TypeId) : (Builtin.len_ #[28] ty #[.map m]).run Try.prog w = .ok (.int .i64 l.length) w := by
  rcases h with ⟨rfl, rfl⟩ | ⟨b, rfl, ho⟩
  · exact Maps.len_nil Try.underlying28 ty
  · have := World.ownsMap.len ho Try.underlying28 ty
    rw [size_mapD] at this
    exact this
theorem OwnsO.kept {w w' : World} {m : Option Nat} {l : List T} {B : Nat} (h : OwnsO w m l) (hb : Below B w w') (hB : w.heap.size ≤ B) : OwnsO w' m l := h.imp id fun ⟨b, hb', ho⟩ => ⟨b, hb', (Kp.of_below (fun _ => False) hb hB).owns ho id⟩
set_option maxRecDepth 10000 in
set_option maxHeartbeats 3200000 in
theorem drop_any (q : Nat) (m : Option Nat) (l : List T) (A : Option Addr) (n c : Nat) (ns : List Int) (w : World) (hq : QuC w q m l) (hx : KRow nκ w w.heap.size A n ns) (hns : ∀ y ∈ ns, (Lit.int .i64 y).wf = true) (hn : n ≤ 100000) (hl : l.length ≤ 100000) (hab : ∀ a, A = some a → ¬ QS q m a.block) :
    Calls Try.prog 10 #[.pointer (some ⟨q, 0, none⟩), .slice A n c] w fun e w' => e = .returned (.int .i64 ((l.length : Int) - ((outs l ns).length : Int))) ∧ QuC w' q m (outs l ns) ∧ Kp (fun i => m = some i) w w' := by
  obtain rfl : ns.length = n := hx.len (by decide)
  have c0 := hq.cel.cell 0 _ rfl
  have ho : OwnsO w m l := hq.own
  have HQ := Lib.hid hq
  have HX := Lib.hid hx
  have HNS := Lib.hid hns
  have HN := Lib.hid hn
  have HL := Lib.hid hl
  have HAB := Lib.hid hab
  have HO := Lib.hid ho
  have hlen : ∀ ty, (Builtin.len_ #[28] ty #[.map m]).run Try.prog w = .ok (.int .i64 l.length) w := ho.len
  clear hq hx hns hn hl hab ho
  go_enter Try.func10, Try.ntmps10
  go_wp2_with fail
  go_loopw [15] (fun i wr => ∃ (j : Nat), j ≤ ns.length ∧ i = .int .i64 j ∧ Cel wr q [.map m] ∧ OwnsO wr m (outs l (ns.take j)) ∧ Kp (fun i => m = some i) w wr) (fun i _ => ns.length - (intOf i).toNat)
  case atStart => exact ⟨0, Nat.zero_le _, rfl, HQ.out.cel, HO.out, Kp.refl _ _⟩
  case round =>
    obtain ⟨j, hj, rfl, hcr, hor, hkr⟩ := hrel
    have hj0 : (0 : Int) ≤ (j : Int) := by omega
    have HC := Lib.hid hcr
    have HOR := Lib.hid hor
    have HKR := Lib.hid hkr
    have c1 := hcr.cell 0 _ rfl
    clear hlen c0
    by_cases hlt : j < ns.length
    · have hI : (j : Int) < (ns.length : Int) := by omega
      have hjn : j < 1000000 := by have h1 := HN.out; omega
      have hZ := hkr.krow HX.out (Nat.le_refl _) (fun a ha h => HAB.out a ha (.inr h))
      obtain ⟨bz, oz, rfl, hbz, _⟩ := hZ.2 (by omega)
      have t0 := n_at hZ hlt
      have HS := Lib.hid (outs_succ l hlt)
      have hwf : (Lit.int .i64 ns[j]!).wf = true := HNS.out _ (by rw [getElem!_pos ns j hlt]; exact List.getElem_mem hlt)
      generalize outs l (ns.take j) = u at *
      generalize ns[j]! = k at *
      obtain ⟨w2, hd, ho2, hg2⟩ : ∃ w', (∀ ty, (Builtin.delete_ #[28, 3] ty #[.map m, .int .i64 k]).run Try.prog wr = .ok (.tuple #[]) w') ∧ OwnsO w' m (out k u) ∧ wr.grownBy w' m := by
        obtain ⟨w', h1, h2, h3⟩ := hor.out k hwf 0
        exact ⟨w', fun ty => h1, h2, h3⟩
      have HO2 := Lib.hid ho2
      have HG2 := Lib.hid hg2
      have HNE : Hid (m ≠ some q) := fun e => by
        have := HQ.out.mlt e
        exact this.2 rfl
      clear hcr hor hkr hZ ho2 hg2 hwf
      go_wp2_with fail
      go_roundw
      case rel => exact ⟨j + 1, by omega, by go_num, HC.out.kept HG2.out HNE.out, by rw [HS.out]; exact HO2.out, HKR.out.trans (Kp.of_grown HG2.out (fun _ _ e => e))⟩
      case measure =>
        simp only [intOf]
        omega
    · obtain rfl : j = ns.length := by omega
      have hI : ¬ (ns.length : Int) < (ns.length : Int) := by omega
      rw [List.take_length] at hor
      have hlen := hor.len
      obtain ⟨ok1, ok2, ok3⟩ := outs_ok (ns := ns) HQ.out.asc HQ.out.wf
      have HQ2 : Hid (QuC wr q m (outs l ns)) := Lib.hid ⟨HC.out, ok1, ok2, hor⟩
      have hl2 := HL.out
      obtain ⟨z, hz⟩ : ∃ z, (outs l ns).length = z := ⟨_, rfl⟩
      rw [hz] at hlen ok3
      have HZ := Lib.hid hz
      clear hor hcr hkr ok1 ok2 hz
      go_wp2
      go_ret
      exact ⟨by rw [HZ.out]; rfl, HQ2.out, HKR.out⟩
end Qu
end Go.Proofs.Ytdmbbbljamjhkaa
