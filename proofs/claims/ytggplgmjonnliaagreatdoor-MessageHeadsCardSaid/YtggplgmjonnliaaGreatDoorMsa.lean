/- Package message: errors by their numbers; small functions. -/
import Derived.Test.YtggplgmjonnliaaGreatDoorErr
import Derived.Test.YtggplgmjonnliaaGreatDoorVn
namespace Go.Proofs.YtggplgmjonnliaaGreatDoor
open Go.RowKit

namespace Ms
/-- The sentinels that Check tells. -/
structure MsErrs (W : World) (E : Int → Option Addr) : Prop where
  e102 : ErrIn W E 102 1
  e104 : ErrIn W E 104 5
  e106 : ErrIn W E 106 2
  e107 : ErrIn W E 107 3
  e109 : ErrIn W E 109 6
theorem MsErrs.below {W w : World} {E : Int → Option Addr} (h : MsErrs W E) (hb : Below W.heap.size W w) : MsErrs w E :=
  ⟨h.e102.below hb, h.e104.below hb, h.e106.below hb, h.e107.below hb, h.e109.below hb⟩
def eMap (ads : List Addr) : Int → Option Addr := fun c => if 101 ≤ c then ads[(c - 101).toNat]? else none
theorem msErrs16 {W : World} {ads : List Addr} (hE : Errs W 224 sents ads) : MsErrs W (eMap ads) where
  e102 := errIn_of hE 102 1 _ rfl rfl
  e104 := errIn_of hE 104 3 _ rfl rfl
  e106 := errIn_of hE 106 5 _ rfl rfl
  e107 := errIn_of hE 107 6 _ rfl rfl
  e109 := errIn_of hE 109 8 _ rfl rfl
theorem seenAs_of {ads : List Addr} {v : Value} {c : Int} (h : SeenBy (eMap ads) v c) : SeenAs ads v c := by
  unfold eMap at h
  cases h with
  | nil => exact SeenAs.nil
  | err _ a h hc =>
    split at h
    · next hge =>
      have := SeenAs.err (ads := ads) _ a h
      rw [show (101 : Int) + ((c - 101).toNat : Nat) = c from by omega] at this
      exact this
    · cases h
def wi (lo hi x : Int) : Bool := decide (lo ≤ x) && decide (x ≤ hi)
theorem within_any (x lo hi : Int) (w : World) : Calls Tryz.prog 33 #[.int .i64 x, .int .i64 lo, .int .i64 hi] w fun e w' => e = .returned (.bool (wi lo hi x)) ∧ w = w' := by
  unfold wi
  go_enter Tryz.func33, Tryz.ntmps33
  by_cases h1 : lo ≤ x
  · rw [decide_eq_true h1]
    go_wp2
    go_ret
    exact ⟨by simp, rfl⟩
  · rw [decide_eq_false h1]
    go_wp2
    go_ret
    exact ⟨by simp, rfl⟩
theorem within64_any (x lo hi : Int) (w : World) : Calls Tryz.prog 80 #[.int .i64 x, .int .i64 lo, .int .i64 hi] w fun e w' => e = .returned (.bool (wi lo hi x)) ∧ w = w' := by
  unfold wi
  go_enter Tryz.func80, Tryz.ntmps80
  by_cases h1 : lo ≤ x
  · rw [decide_eq_true h1]
    go_wp2
    go_ret
    exact ⟨by simp, rfl⟩
  · rw [decide_eq_false h1]
    go_wp2
    go_ret
    exact ⟨by simp, rfl⟩
theorem isKind_any (x : Int) (w : World) : Calls Tryz.prog 23 #[.int .i64 x] w fun e w' => e = .returned (.bool (wi 1 9 x)) ∧ w = w' := by
  go_enter Tryz.func23, Tryz.ntmps23
  go_wp2_with fail
  refine (within_any x 1 9 w).mono ?_
  rintro e w' ⟨rfl, rfl⟩
  go_wp2
  go_ret
  exact ⟨rfl, rfl⟩
theorem isTask_any (x : Int) (w : World) : Calls Tryz.prog 62 #[.int .i64 x] w fun e w' => e = .returned (.bool (wi 1 1073741824 x)) ∧ w = w' := by
  go_enter Tryz.func62, Tryz.ntmps62
  go_wp2_with fail
  refine (within_any x 1 1073741824 w).mono ?_
  rintro e w' ⟨rfl, rfl⟩
  go_wp2
  go_ret
  exact ⟨rfl, rfl⟩
theorem rangeFault_any {W w : World} {E : Int → Option Addr} (b : Bool) (hE : MsErrs W E) (hb : Below W.heap.size W w) :
    Calls Tryz.prog 61 #[.bool b] w fun e w' => (∃ ev, e = .returned ev ∧ SeenBy E ev (if b = true then 0 else 107)) ∧ w = w' := by
  obtain ⟨a, hk, hg⟩ := (hE.below hb).e107
  unfold errV at hg
  go_enter Tryz.func61, Tryz.ntmps61
  cases b with
  | true =>
    go_wp2
    go_ret
    exact ⟨⟨_, rfl, .nil⟩, rfl⟩
  | false =>
    go_wp2
    go_ret
    exact ⟨⟨_, rfl, .err 107 a hk (by decide)⟩, rfl⟩
/-- A request, its slices as they stand. -/
structure Rq where
  wkr : ByteArray
  inc : Int
  key : Int
  kind : Int
  pn : ByteArray
  NA : Option Addr
  nn : Nat
  nc : Nat
  FA : Option Addr
  fn : Nat
  fc : Nat
  name : ByteArray
  VA : Option Addr
  vn : Nat
  vc : Nat
  TA : Option Addr
  tn : Nat
  tc : Nat
  most : Int
  time : Int
  task : Int
  epoch : Int
  retries : Int
  code : ByteArray
def Rq.val (r : Rq) : Value := .agg #[.string r.wkr, .int .i64 r.inc, .int .i64 r.key, .int .i64 r.kind, .string r.pn, .slice r.NA r.nn r.nc, .slice r.FA r.fn r.fc, .string r.name, .slice r.VA r.vn r.vc, .slice r.TA r.tn r.tc, .int .i64 r.most, .int .i64 r.time, .int .i64 r.task, .int .i64 r.epoch, .int .i64 r.retries, .string r.code]
def no : ByteArray := ⟨#[]⟩
/-- With no other parts than its kind's. -/
def Rq.own (r : Rq) : Rq :=
  if r.kind = 1 then ⟨r.wkr, r.inc, r.key, r.kind, r.pn, r.NA, r.nn, r.nc, r.FA, r.fn, r.fc, no, none, 0, 0, none, 0, 0, 0, 0, 0, 0, 0, no⟩
  else if r.kind = 2 then ⟨r.wkr, r.inc, r.key, r.kind, no, none, 0, 0, none, 0, 0, r.name, r.VA, r.vn, r.vc, none, 0, 0, 0, 0, 0, 0, 0, no⟩
  else if r.kind = 3 then ⟨r.wkr, r.inc, r.key, r.kind, no, none, 0, 0, none, 0, 0, no, none, 0, 0, r.TA, r.tn, r.tc, r.most, r.time, 0, 0, 0, no⟩
  else if r.kind = 4 then ⟨r.wkr, r.inc, r.key, r.kind, no, none, 0, 0, none, 0, 0, no, none, 0, 0, none, 0, 0, 0, r.time, r.task, r.epoch, 0, no⟩
  else if r.kind = 6 then ⟨r.wkr, r.inc, r.key, r.kind, no, none, 0, 0, none, 0, 0, no, r.VA, r.vn, r.vc, none, 0, 0, 0, 0, r.task, r.epoch, 0, no⟩
  else if r.kind = 7 then ⟨r.wkr, r.inc, r.key, r.kind, no, none, 0, 0, none, 0, 0, no, none, 0, 0, none, 0, 0, 0, r.time, r.task, r.epoch, r.retries, no⟩
  else if r.kind = 8 then ⟨r.wkr, r.inc, r.key, r.kind, no, none, 0, 0, none, 0, 0, no, r.VA, r.vn, r.vc, none, 0, 0, 0, 0, r.task, r.epoch, 0, r.code⟩
  else if r.kind = 9 then ⟨r.wkr, r.inc, r.key, r.kind, no, none, 0, 0, none, 0, 0, no, none, 0, 0, none, 0, 0, 0, 0, r.task, 0, r.retries, no⟩
  else ⟨r.wkr, r.inc, r.key, r.kind, no, none, 0, 0, none, 0, 0, no, none, 0, 0, none, 0, 0, 0, 0, r.task, r.epoch, 0, no⟩
theorem own_last (w : World) (OA OB OC : Obj) : Below w.heap.size w (((w.alloc OA).alloc OB).alloc OC).drew :=
  ((((Below.refl w.heap.size w).alloc (Nat.le_refl _) OA).alloc (by simp) _).alloc (by simp; omega) _).drew
theorem own_last0 (w : World) (OA OB OC : Obj) : Below w.heap.size w (((w.alloc OA).alloc OB).alloc OC) :=
  (((Below.refl w.heap.size w).alloc (Nat.le_refl _) OA).alloc (by simp) _).alloc (by simp; omega) _
end Ms
end Go.Proofs.YtggplgmjonnliaaGreatDoor
