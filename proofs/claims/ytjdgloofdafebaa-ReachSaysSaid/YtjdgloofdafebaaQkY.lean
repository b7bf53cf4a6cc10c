/- container/heap over places: Push, Pop. -/
import Derived.Test.YtjdgloofdafebaaQjY
namespace Go.Proofs.Ytjdgloofdafebaa
open Go.RowKit

namespace Pr
section
variable {w w' w1 w2 : World} {base q n c : Nat} {A A' A1 A2 : Option Addr} {l l' : List Nat}
def HPushed (base q : Nat) (A : Option Addr) (n k : Nat) (l : List Nat) (w : World) (e : Ending) (w' : World) : Prop := e = .returned (.tuple #[]) ∧ ∃ A' c' l', PL w' base q A' (n + 1) c' l' ∧ Rc.Hp l' ∧ l'.Perm (k :: l) ∧ Mv w w' q A A'
def HPopped (base q : Nat) (A : Option Addr) (n c : Nat) (l : List Nat) (w : World) (e : Ending) (w' : World) : Prop := e = .returned (.iface 3 (.int .i64 (l[0]! : Int))) ∧ ∃ l', PL w' base q A n c l' ∧ Rc.Hp l' ∧ l.Perm (l[0]! :: l') ∧ Mv w w' q A A
set_option maxHeartbeats 1600000 in
theorem hpush_any (h : PL w base q A n c l) (hh : Rc.Hp l) (hb : base ≤ w.heap.size) (hn : n ≤ 999999) (k : Nat) :
    Calls Try.prog 36 #[.iface 69 (.pointer (some ⟨q, 0, none⟩)), .iface 3 (.int .i64 (k : Int))] w (HPushed base q A n k l w) := by
  have hl := h.len
  have HPU := Lib.hid (ppush_any' h hb (by omega) k)
  have HH := Lib.hid hh
  have mp := mPush (.pointer (some ⟨q, 0, none⟩)) w
  have HL := Lib.hid hl
  clear h hh hl hb
  go_enter Try.func36, Try.ntmps36
  go_wp2_with fail
  refine HPU.out.mono ?_
  rintro e w1 ⟨rfl, A1, c1, hp1, hm1⟩
  have HP1 := Lib.hid hp1
  have HM1 := Lib.hid hm1
  have ml := mLen (hp1.cel.cell 0 _ rfl)
  clear hp1 hm1 mp HPU
  go_wp2_with fail
  refine (len_any A1 (n + 1) c1 w1).mono ?_
  rintro e w2 ⟨rfl, rfl⟩
  have hup := up_any HP1.out (by omega) n (by omega) (by rw [← HL.out]; exact Rc.Up.start HH.out)
  have HUP := Lib.hid hup
  have e1 : IntKind.i64.wrap (((n : Nat) : Int) + 1 - 1) = (n : Int) := by rw [IntKind.wrap_i64]; omega
  have h0 : (0 : Int) ≤ (n : Int) := by omega
  have h1 : (n : Int) ≤ 999999 := by omega
  rw [show ((n + 1 : Nat) : Int) = (n : Int) + 1 from by omega]
  clear hup ml
  go_wp2_with fail
  refine HUP.out.mono ?_
  rintro e w3 ⟨rfl, l3, hp3, hh3, hpm, hm3⟩
  have HF : Hid (HPushed base q A n k l w (.returned (.tuple #[])) w3) := ⟨rfl, A1, c1, l3, hp3, hh3, hpm.trans (List.perm_append_comm (l₁ := l) (l₂ := [k])), HM1.out.trans hm3⟩
  clear hp3 hh3 hpm hm3
  go_wp2
  try simp only [Exit.inBlock, Exit.then]
  first | (refine bodyPost_ret (results_none rfl _ _ _) rfl ?_) | (refine bodyPost_end (results_none rfl _ _ _) rfl ?_)
  exact HF.out
set_option maxHeartbeats 1600000 in
theorem hpop_any (h : PL w base q A (n + 1) c l) (hh : Rc.Hp l) (hn : n ≤ 999999) :
    Calls Try.prog 38 #[.iface 69 (.pointer (some ⟨q, 0, none⟩))] w (HPopped base q A n c l w) := by
  have HL := Lib.hid h.len
  have HP := Lib.hid h
  have HH := Lib.hid hh
  have ml := mLen (h.cel.cell 0 _ rfl)
  have ms := mSwap (h.cel.cell 0 _ rfl)
  have e1 : IntKind.i64.wrap (((n : Nat) : Int) + 1 - 1) = (n : Int) := by rw [IntKind.wrap_i64]; omega
  have h0 : (0 : Int) ≤ (n : Int) := by omega
  have h1 : (n : Int) ≤ 999999 := by omega
  have HSW := Lib.hid (swap_any h 0 n (by omega) (by omega))
  rw [show ((0 : Nat) : Int) = 0 from rfl] at HSW
  have HDN := Lib.hid (Rc.Dn.start hh (n := n) (by have := h.len; omega))
  clear h hh
  go_enter Try.func38, Try.ntmps38
  go_wp2_with fail
  refine (len_any A (n + 1) c w).mono ?_
  rintro e w2 ⟨rfl, rfl⟩
  rw [show ((n + 1 : Nat) : Int) = (n : Int) + 1 from by omega]
  go_wp2_with fail
  refine HSW.out.mono ?_
  rintro e w1 ⟨rfl, hp1, hm1⟩
  have HM1 := Lib.hid hm1
  have HP1 := Lib.hid hp1
  have HDO := Lib.hid (down_any hp1 (by omega) n (by omega) HDN.out)
  clear hp1 hm1 ml ms HSW
  go_wp2_with fail
  refine HDO.out.mono ?_
  rintro e w2 ⟨⟨b, rfl⟩, l2, hp2, hcut, hpm, hlast, hm2⟩
  have HM2 := Lib.hid (HM1.out.trans hm2)
  have hl2 := hp2.len
  have HPO := Lib.hid (ppop_any' hp2 (by omega))
  have mp := mPop (.pointer (some ⟨q, 0, none⟩)) w2
  have hx : l2[n]! = l[0]! := by
    rw [hlast, Rc.swap_get (by rw [HL.out]; omega), if_pos rfl]
  obtain ⟨x, hx0⟩ : ∃ x, x = l[0]! := ⟨_, rfl⟩
  have HX0 := Lib.hid hx0
  rw [hx, ← hx0] at HPO
  clear hx0
  have HHP := Lib.hid (Rc.Hp.cut (l := l2) (n := n) hcut (by omega))
  have HPM : Hid (l.Perm (l[0]! :: l2.take n)) := by
    have h3 := Rc.last_perm (l := l2) (n := n) hl2
    rw [hx] at h3
    exact ((hpm.trans (Rc.swap_perm (by rw [HL.out]; omega) (by rw [HL.out]; omega))).symm).trans h3
  clear hp2 hcut hpm hlast hm2 hl2 hx HDO HP1 HM1 HDN
  go_wp2_with fail
  refine HPO.out.mono ?_
  rintro e w3 ⟨rfl, hp3, hm3⟩
  have HF : Hid (HPopped base q A n c l w (.returned (.iface 3 (.int .i64 (x : Int)))) w3) := ⟨by rw [HX0.out], _, hp3, HHP.out, HPM.out, HM2.out.trans hm3⟩
  clear hp3 hm3
  go_wp2
  go_ret
  exact HF.out
end
end Pr
end Go.Proofs.Ytjdgloofdafebaa
