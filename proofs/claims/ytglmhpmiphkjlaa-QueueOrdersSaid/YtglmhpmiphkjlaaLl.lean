/- Package queue: order. -/
import Derived.Test.YtglmhpmiphkjlaaLk
namespace Go.Proofs.Ytglmhpmiphkjlaa
open Go.RowKit

namespace Qu
open Ls (T)
/-- What order tells of two tasks. -/
def cf (x y : T) : Int := if Lib.compareInt y.prio x.prio = 0 then Lib.compareInt x.id y.id else Lib.compareInt y.prio x.prio
theorem Cel.all {w : World} {q : Nat} {x : T} (h : Cel w q x.cells) : w.cell? ⟨q, 0, none⟩ = some (.int .i64 x.id) ∧ w.cell? ⟨q, 1, none⟩ = some (.int .i64 x.ins) ∧ w.cell? ⟨q, 2, none⟩ = some (.int .i64 x.tok) ∧ w.cell? ⟨q, 3, none⟩ = some (.int .i64 x.nod) ∧ w.cell? ⟨q, 4, none⟩ = some (.string x.top) ∧ w.cell? ⟨q, 5, none⟩ = some (.int .i64 x.prio) ∧ w.cell? ⟨q, 6, none⟩ = some (.string x.wkr) ∧ w.cell? ⟨q, 7, none⟩ = some (.int .i64 x.epo) ∧ w.cell? ⟨q, 8, none⟩ = some (.int .i64 x.exp) ∧ w.cell? ⟨q, 9, none⟩ = some (.int .i64 x.aft) ∧ w.cell? ⟨q, 10, none⟩ = some (.int .i64 x.ret) ∧ w.cell? ⟨q, 11, none⟩ = some (.bool x.bro) := by
  obtain ⟨⟨k0, k1, k2, k3, k4, k5, k6, k7, k8, k9, k10, k11⟩, _⟩ := Ls.dz_facts h
  exact ⟨k0, k1, k2, k3, k4, k5, k6, k7, k8, k9, k10, k11⟩
set_option maxRecDepth 100000 in
set_option maxHeartbeats 3200000 in
theorem order_any (x y : T) (w : World) : Calls Try.prog 33 #[x.val, y.val] w fun e w' => e = .returned (.int .i64 (cf x y)) ∧ Gw w w' := by
  have hcm := Lib.hid (fun W => cmp_any y.prio x.prio W)
  have hby := Lib.hid (fun W => byid_any x y W)
  have hor := Lib.hid (fun W b h0 h1 => or_any b (Lib.compareInt y.prio x.prio) (Lib.compareInt x.id y.id) W h0 h1)
  obtain ⟨hc, hd, _⟩ := Ls.two_lit w #[.int .i64 x.id, .int .i64 x.ins, .int .i64 x.tok, .int .i64 x.nod, .string x.top, .int .i64 x.prio, .string x.wkr, .int .i64 x.epo, .int .i64 x.exp, .int .i64 x.aft, .int .i64 x.ret, .bool x.bro] #[.int .i64 y.id, .int .i64 y.ins, .int .i64 y.tok, .int .i64 y.nod, .string y.top, .int .i64 y.prio, .string y.wkr, .int .i64 y.epo, .int .i64 y.exp, .int .i64 y.aft, .int .i64 y.ret, .bool y.bro] 38 38
  have hg := ((Gw.refl w).alloc (.cells #[.int .i64 x.id, .int .i64 x.ins, .int .i64 x.tok, .int .i64 x.nod, .string x.top, .int .i64 x.prio, .string x.wkr, .int .i64 x.epo, .int .i64 x.exp, .int .i64 x.aft, .int .i64 x.ret, .bool x.bro] 38)).alloc (.cells #[.int .i64 y.id, .int .i64 y.ins, .int .i64 y.tok, .int .i64 y.nod, .string y.top, .int .i64 y.prio, .string y.wkr, .int .i64 y.epo, .int .i64 y.exp, .int .i64 y.aft, .int .i64 y.ret, .bool y.bro] 38)
  unfold cf
  generalize Lib.compareInt x.id y.id = r at *
  generalize Lib.compareInt y.prio x.prio = s at *
  generalize (if s = 0 then r else s) = V at *
  unfold T.val at *
  go_enter Try.func33, Try.ntmps33
  go_upto_region 1 with (fail)
  generalize (w.alloc _).alloc _ = wa at *
  have hp1 := hd.lt
  generalize w.heap.size = p at *
  have HC := Lib.hid (show Cel wa p x.cells from hc)
  have HD := Lib.hid (show Cel wa (p + 1) y.cells from hd)
  have HG := Lib.hid hg
  have hdr : Gw wa wa.drew := (Gw.refl wa).drew
  have HC1 := Lib.hid (hdr.cel HC.out)
  have HD1 := Lib.hid (hdr.cel HD.out)
  have HG1 := Lib.hid (HG.out.trans hdr)
  obtain ⟨k0, k1, k2, k3, k4, k5, k6, k7, k8, k9, k10, k11⟩ := Cel.all HC1.out
  obtain ⟨j0, j1, j2, j3, j4, j5, j6, j7, j8, j9, j10, j11⟩ := Cel.all HD1.out
  clear hc hd hg hdr
  go_region_held3 (fun w' => w'.cell? ⟨p, 0, none⟩ = some (.int .i64 x.id) ∧ w'.cell? ⟨p, 1, none⟩ = some (.int .i64 x.ins) ∧ w'.cell? ⟨p, 2, none⟩ = some (.int .i64 x.tok) ∧ w'.cell? ⟨p, 3, none⟩ = some (.int .i64 x.nod) ∧ w'.cell? ⟨p, 4, none⟩ = some (.string x.top) ∧ w'.cell? ⟨p, 5, none⟩ = some (.int .i64 x.prio) ∧ w'.cell? ⟨p, 6, none⟩ = some (.string x.wkr) ∧ w'.cell? ⟨p, 7, none⟩ = some (.int .i64 x.epo) ∧ w'.cell? ⟨p, 8, none⟩ = some (.int .i64 x.exp) ∧ w'.cell? ⟨p, 9, none⟩ = some (.int .i64 x.aft) ∧ w'.cell? ⟨p, 10, none⟩ = some (.int .i64 x.ret) ∧ w'.cell? ⟨p, 11, none⟩ = some (.bool x.bro) ∧ w'.cell? ⟨(p + 1), 0, none⟩ = some (.int .i64 y.id) ∧ w'.cell? ⟨(p + 1), 1, none⟩ = some (.int .i64 y.ins) ∧ w'.cell? ⟨(p + 1), 2, none⟩ = some (.int .i64 y.tok) ∧ w'.cell? ⟨(p + 1), 3, none⟩ = some (.int .i64 y.nod) ∧ w'.cell? ⟨(p + 1), 4, none⟩ = some (.string y.top) ∧ w'.cell? ⟨(p + 1), 5, none⟩ = some (.int .i64 y.prio) ∧ w'.cell? ⟨(p + 1), 6, none⟩ = some (.string y.wkr) ∧ w'.cell? ⟨(p + 1), 7, none⟩ = some (.int .i64 y.epo) ∧ w'.cell? ⟨(p + 1), 8, none⟩ = some (.int .i64 y.exp) ∧ w'.cell? ⟨(p + 1), 9, none⟩ = some (.int .i64 y.aft) ∧ w'.cell? ⟨(p + 1), 10, none⟩ = some (.int .i64 y.ret) ∧ w'.cell? ⟨(p + 1), 11, none⟩ = some (.bool y.bro)) (first | exact ⟨k''0, k''1, k''2, k''3, k''4, k''5, k''6, k''7, k''8, k''9, k''10, k''11, j''0, j''1, j''2, j''3, j''4, j''5, j''6, j''7, j''8, j''9, j''10, j''11⟩ | exact ⟨k'0, k'1, k'2, k'3, k'4, k'5, k'6, k'7, k'8, k'9, k'10, k'11, j'0, j'1, j'2, j'3, j'4, j'5, j'6, j'7, j'8, j'9, j'10, j'11⟩ | exact ⟨k0, k1, k2, k3, k4, k5, k6, k7, k8, k9, k10, k11, j0, j1, j2, j3, j4, j5, j6, j7, j8, j9, j10, j11⟩) (first
    | (go_at_call 44; refine (hcm.out _).mono ?_; rintro e w2 ⟨rfl, rfl⟩)
    | (go_at_call 38; refine (hby.out _).mono ?_; rintro e w3 ⟨rfl, hg3⟩; have HC3 := Lib.hid (hg3.cel HC1.out); have HD3 := Lib.hid (hg3.cel HD1.out); have HG3 := Lib.hid (HG1.out.trans hg3); obtain ⟨k'0, k'1, k'2, k'3, k'4, k'5, k'6, k'7, k'8, k'9, k'10, k'11⟩ := Cel.all HC3.out; obtain ⟨j'0, j'1, j'2, j'3, j'4, j'5, j'6, j'7, j'8, j'9, j'10, j'11⟩ := Cel.all HD3.out; obtain ⟨k''0, k''1, k''2, k''3, k''4, k''5, k''6, k''7, k''8, k''9, k''10, k''11⟩ := Cel.all (HC3.out.alloc (.cells #[.int .i64 s, .int .i64 r] 3)); obtain ⟨j''0, j''1, j''2, j''3, j''4, j''5, j''6, j''7, j''8, j''9, j''10, j''11⟩ := Cel.all (HD3.out.alloc (.cells #[.int .i64 s, .int .i64 r] 3)); have m0 := (Cel.lit w3 #[.int .i64 s, .int .i64 r] 3).cell 0 _ rfl; have m1 := (Cel.lit w3 #[.int .i64 s, .int .i64 r] 3).cell 1 _ rfl)
    | (go_at_call 43; refine (hor.out _ w3.heap.size m0 m1).mono ?_; rintro e w4 ⟨rfl, rfl⟩))
  go_wp2
  go_ret
  exact ⟨rfl, HG3.out.alloc _⟩
end Qu
end Go.Proofs.Ytglmhpmiphkjlaa
