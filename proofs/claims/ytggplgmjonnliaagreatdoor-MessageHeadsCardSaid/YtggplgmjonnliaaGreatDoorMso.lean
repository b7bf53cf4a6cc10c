/- MessageParts: the walk. -/
import Derived.Test.YtggplgmjonnliaaGreatDoorMsj
import Derived.Test.YtggplgmjonnliaaGreatDoorMsk
import Derived.Test.YtggplgmjonnliaaGreatDoorMsl
import Derived.Test.YtggplgmjonnliaaGreatDoorMsm
import Derived.Test.YtggplgmjonnliaaGreatDoorMsn
import Derived.Deep.CutRange
import Derived.Deep.CutBlock
namespace Go.Proofs.YtggplgmjonnliaaGreatDoor
open Go.RowKit

namespace Ms
def LsK (kd : Int) : Prop := kd = 4 ∨ kd = 5 ∨ kd = 6 ∨ kd = 7 ∨ kd = 8
def cNo (kd : Int) (wkr pn name code : ByteArray) (inc key : Int) (nn fn tn : Nat) (most time task epoch retries : Int) : Int :=
  if kd = 4 then checkNo4 wkr pn name code inc key nn fn tn most time task epoch retries
  else if kd = 5 then checkNo5 wkr pn name code inc key nn fn tn most time task epoch retries
  else if kd = 6 then checkNo6 wkr pn name code inc key nn fn tn most time task epoch retries
  else if kd = 7 then checkNo7 wkr pn name code inc key nn fn tn most time task epoch retries
  else checkNo8 wkr pn name code inc key nn fn tn most time task epoch retries
theorem check_ls {W w : World} {E : Int → Option Addr} (kd : Int) (hk : LsK kd) (wkr pn name code : ByteArray) (inc key most time task epoch retries : Int) (NA FA TA : Option Addr) (nn nc fn fc tn tc : Nat) (hE : MsErrs W E) (hb : Below W.heap.size W w) (hc : code.size ≤ 9223372036854775807) (hw : wkr.size ≤ 9223372036854775807) :
    Calls Tryz.prog 13 #[.agg #[.string wkr, .int .i64 inc, .int .i64 key, .int .i64 kd, .string pn, .slice NA nn nc, .slice FA fn fc, .string name, .slice none 0 0, .slice TA tn tc, .int .i64 most, .int .i64 time, .int .i64 task, .int .i64 epoch, .int .i64 retries, .string code]] w fun e w' => (∃ ev, e = .returned ev ∧ SeenBy E ev (cNo kd wkr pn name code inc key nn fn tn most time task epoch retries)) ∧ Below w.heap.size w w' := by
  rcases hk with rfl | rfl | rfl | rfl | rfl
  · exact check_4 wkr pn name code inc key most time task epoch retries NA FA TA nn nc fn fc tn tc hE hb hc hw
  · exact check_5 wkr pn name code inc key most time task epoch retries NA FA TA nn nc fn fc tn tc hE hb hc hw
  · exact check_6 wkr pn name code inc key most time task epoch retries NA FA TA nn nc fn fc tn tc hE hb hc hw
  · exact check_7 wkr pn name code inc key most time task epoch retries NA FA TA nn nc fn fc tn tc hE hb hc hw
  · exact check_8 wkr pn name code inc key most time task epoch retries NA FA TA nn nc fn fc tn tc hE hb hc hw
def tmK (kd : Int) : Int := if kd = 4 then 5 else 0
def cdK (kd : Int) : ByteArray := if kd = 8 then ⟨#[120]⟩ else no
def sw : ByteArray := ⟨#[119]⟩
theorem cdK_size (kd : Int) : (cdK kd).size ≤ 9223372036854775807 := by
  unfold cdK
  split <;> decide
section
variable {kd : Int} (hk : LsK kd)
include hk
theorem m_good : cNo kd sw no no (cdK kd) 1 1 0 0 0 0 (tmK kd) 1 1 0 = 0 := by rcases hk with rfl | rfl | rfl | rfl | rfl <;> decide +kernel
theorem m_name : cNo kd sw no ⟨#[110]⟩ (cdK kd) 1 1 0 0 0 0 (tmK kd) 1 1 0 = 102 := by rcases hk with rfl | rfl | rfl | rfl | rfl <;> decide +kernel
theorem m_tops : cNo kd sw no no (cdK kd) 1 1 0 0 1 0 (tmK kd) 1 1 0 = 102 := by rcases hk with rfl | rfl | rfl | rfl | rfl <;> decide +kernel
theorem m_most : cNo kd sw no no (cdK kd) 1 1 0 0 0 1 (tmK kd) 1 1 0 = 102 := by rcases hk with rfl | rfl | rfl | rfl | rfl <;> decide +kernel
theorem m_pn : cNo kd sw ⟨#[112]⟩ no (cdK kd) 1 1 0 0 0 0 (tmK kd) 1 1 0 = 102 := by rcases hk with rfl | rfl | rfl | rfl | rfl <;> decide +kernel
theorem m_task : cNo kd sw no no (cdK kd) 1 1 0 0 0 0 (tmK kd) 0 1 0 = 107 := by rcases hk with rfl | rfl | rfl | rfl | rfl <;> decide +kernel
theorem m_epoch : cNo kd sw no no (cdK kd) 1 1 0 0 0 0 (tmK kd) 1 61 0 = 107 := by rcases hk with rfl | rfl | rfl | rfl | rfl <;> decide +kernel
theorem m_inc : cNo kd sw no no (cdK kd) 0 1 0 0 0 0 (tmK kd) 1 1 0 = 107 := by rcases hk with rfl | rfl | rfl | rfl | rfl <;> decide +kernel
theorem m_wkr : cNo kd ⟨#[87]⟩ no no (cdK kd) 1 1 0 0 0 0 (tmK kd) 1 1 0 = 106 := by rcases hk with rfl | rfl | rfl | rfl | rfl <;> decide +kernel
end
set_option maxHeartbeats 1600000 in
set_option maxRecDepth 10000 in
theorem check_zero {W w : World} {E : Int → Option Addr} (hE : MsErrs W E) (hb : Below W.heap.size W w) :
    Calls Tryz.prog 13 #[.agg #[.string ⟨#[]⟩, .int .i64 0, .int .i64 0, .int .i64 0, .string ⟨#[]⟩, .slice none 0 0, .slice none 0 0, .string ⟨#[]⟩, .slice none 0 0, .slice none 0 0, .int .i64 0, .int .i64 0, .int .i64 0, .int .i64 0, .int .i64 0, .string ⟨#[]⟩]] w fun e w' => (∃ ev, e = .returned ev ∧ SeenBy E ev 106) ∧ Below w.heap.size w w' := by
  have HNM := Lib.hid (fun (V : World) => name_any ⟨#[]⟩ V (by decide))
  rw [show Vr.name (⟨#[]⟩ : ByteArray).data.toList = false by decide +kernel] at HNM
  have HB0 := Lib.hid ((Below.refl w.heap.size w).alloc (Nat.le_refl _) (.cells #[.string ⟨#[]⟩, .int .i64 0, .int .i64 0, .int .i64 0, .string ⟨#[]⟩, .slice none 0 0, .slice none 0 0, .string ⟨#[]⟩, .slice none 0 0, .slice none 0 0, .int .i64 0, .int .i64 0, .int .i64 0, .int .i64 0, .int .i64 0, .string ⟨#[]⟩] 33))
  obtain ⟨ea, hea, ga⟩ := (hE.below (hb.trans (HB0.out.mono hb.size))).e106
  unfold errV at ga
  go_enter Tryz.func13, Tryz.ntmps13
  go_wp2_with (go_at_call 32; (with_reducible refine (HNM.out _).mono ?_); rintro e w3 ⟨rfl, hw⟩; subst hw)
  go_ret
  exact ⟨⟨_, rfl, .err 106 ea hea (by decide)⟩, HB0.out⟩
set_option maxHeartbeats 1600000 in
set_option maxRecDepth 10000 in
theorem first_any (ads : List Addr) (w : World) (hE : Errs w 224 sents ads) : Calls Tryz.prog 5 #[] w fun e w' => e = .returned (.bool true) ∧ Below w.heap.size w w' := by
  have HC := Lib.hid (check_zero (msErrs16 hE) (Below.refl _ w))
  have HE := Lib.hid hE
  have HS := Lib.hid (fun (V : World) => same_bare ⟨#[]⟩ ⟨#[]⟩ ⟨#[]⟩ ⟨#[]⟩ ⟨#[]⟩ ⟨#[]⟩ 0 0 0 0 0 0 0 0 0 0 0 0 0 none none none none none 0 0 0 0 0 0 0 0 0 0 V true (fun W _ => (eq_text_nil none 0 0 W).mono fun e w' ⟨h1, h2⟩ => ⟨h1, by rw [h2]; exact Below.refl _ _⟩) true true true true true true true true true (by decide +kernel) (by simp) rfl rfl rfl rfl rfl rfl (by simp))
  clear hE
  go_enter Tryz.func5, Tryz.ntmps5
  go_wp2_with fail
  refine HC.out.mono ?_
  rintro e w1 ⟨⟨ev, rfl, hev⟩, hb1⟩
  have HB1 := Lib.hid hb1
  have HI := Lib.hid (is_any ads ev 106 w1 (HE.out.below hb1 (Nat.le_refl _)) (seenAs_of hev) 106)
  rw [show ((106 : Int) == 106) = true from rfl] at HI
  clear hev hb1
  go_wp2_with (first | (go_at_call 14; refine HI.out.mono ?_; rintro e w2 ⟨rfl, hb2⟩; have HB2 := Lib.hid (HB1.out.trans (hb2.mono HB1.out.size)); clear hb2) | (go_at_call 11; (with_reducible refine (HS.out _).mono ?_); rintro e w3 ⟨rfl, hb3⟩; have HB3 := Lib.hid (HB2.out.trans (hb3.mono HB2.out.size)); clear hb3))
  go_ret
  exact ⟨by simp, HB3.out⟩
end Ms
end Go.Proofs.YtggplgmjonnliaaGreatDoor
