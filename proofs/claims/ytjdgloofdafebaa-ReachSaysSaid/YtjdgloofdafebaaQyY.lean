/- Walks: the document's Order. -/
import Derived.Test.YtjdgloofdafebaaQwY
import Derived.Test.YtjdgloofdafebaaQmY
import Derived.Test.YtjdgloofdafebaaQvY
namespace Go.Proofs.Ytjdgloofdafebaa
open Go.RowKit

namespace Pr
/-- Does nothing that is missing lead to it, as far as the first k flows tell? -/
def Fre (n : Nat) (fl : List Fl) (out : List Nat) (t k : Nat) : Prop := t ∉ out ∧ ∀ i, i < k → okF n fl[i]! = true → (fl[i]!).til = (t : Int) → (fl[i]!).frm.toNat ∈ out
theorem fre_zero {n t : Nat} {fl : List Fl} {out : List Nat} : Fre n fl out t 0 ↔ t ∉ out := ⟨fun h => h.1, fun h => ⟨h, fun i hi => absurd hi (Nat.not_lt_zero i)⟩⟩
theorem fre_keep {n t k : Nat} {fl : List Fl} {out : List Nat} (hs : okF n fl[k]! = false ∨ (fl[k]!).til ≠ (t : Int) ∨ (fl[k]!).frm.toNat ∈ out) : Fre n fl out t (k + 1) ↔ Fre n fl out t k := by
  refine ⟨fun h => ⟨h.1, fun i hi => h.2 i (by omega)⟩, fun h => ⟨h.1, fun i hi h1 h2 => ?_⟩⟩
  rcases Nat.lt_or_ge i k with h3 | h3
  · exact h.2 i h3 h1 h2
  · obtain rfl : i = k := by omega
    rcases hs with h4 | h4 | h4
    · rw [h4] at h1; cases h1
    · exact absurd h2 h4
    · exact h4
theorem fre_lost {n t k : Nat} {fl : List Fl} {out : List Nat} (h1 : okF n fl[k]! = true) (h2 : (fl[k]!).til = (t : Int)) (h3 : (fl[k]!).frm.toNat ∉ out) : ¬ Fre n fl out t (k + 1) := fun h => h3 (h.2 k (Nat.lt_succ_self k) h1 h2)
theorem fre_all {n t : Nat} {fl : List Fl} {out : List Nat} : Fre n fl out t fl.length ↔ Rc.free n (nxt n fl fl.length) out t = true := by
  rw [Rc.free_iff]
  constructor
  · rintro ⟨h1, h2⟩
    refine ⟨h1, fun u hu => ?_⟩
    by_cases hm : t ∈ nxt n fl fl.length u
    · left
      obtain ⟨g, hg, e1, e2, e3⟩ := nxt_mem.1 hm
      rw [List.take_length] at hg
      obtain ⟨i, hi⟩ := List.getElem?_of_mem hg
      obtain ⟨hi1, hi2⟩ := List.getElem?_eq_some_iff.1 hi
      have e : fl[i]! = g := by rw [getElem!_pos fl i hi1]; exact hi2
      have := h2 i hi1 (by rw [e]; exact e1) (by rw [e]; exact e3)
      rw [e, e2] at this
      simpa using this
    · exact .inr hm
  · rintro ⟨h1, h2⟩
    refine ⟨h1, fun i hi e1 e3 => ?_⟩
    obtain ⟨x, y, hx, hy, hxn, hyn⟩ := okF_iff.1 e1
    rcases h2 x hxn with h | h
    · rw [hx]; simpa using h
    · exact absurd (nxt_of hi e1 hx e3) h
/-- The least free one of t and on. -/
def Least (n : Nat) (L : Nat → List Nat) (out : List Nat) (t : Nat) (b : Int) : Prop := (b = -1 ∧ ∀ v, t ≤ v → v < n → Rc.free n L out v = false) ∨ (∃ u : Nat, b = u ∧ u < n ∧ t ≤ u ∧ Rc.free n L out u = true ∧ ∀ v, t ≤ v → v < u → Rc.free n L out v = false)
theorem least_top {n : Nat} {L : Nat → List Nat} {out : List Nat} : Least n L out n (-1) := .inl ⟨rfl, fun v h1 h2 => by omega⟩
theorem least_yes {n t : Nat} {L : Nat → List Nat} {out : List Nat} (ht : t < n) (h : Rc.free n L out t = true) : Least n L out t (t : Int) := .inr ⟨t, rfl, ht, Nat.le_refl _, h, fun v h1 h2 => by omega⟩
theorem least_no {n t : Nat} {L : Nat → List Nat} {out : List Nat} {b : Int} (hl : Least n L out (t + 1) b) (h : Rc.free n L out t = false) : Least n L out t b := by
  rcases hl with ⟨e, h1⟩ | ⟨u, e, hu, htu, hf, h1⟩
  · refine .inl ⟨e, fun v hv hn => ?_⟩
    by_cases e : v = t
    · subst e; exact h
    · exact h1 v (by omega) hn
  · refine .inr ⟨u, e, hu, by omega, hf, fun v hv hn => ?_⟩
    by_cases e : v = t
    · subst e; exact h
    · exact h1 v (by omega) hn
/-- What is known at each round: the row, the process, what was. -/
structure OS (w wr : World) (q : Nat) (cs : List Value) (X : Option Addr) (cc : Nat) (out : List Nat) : Prop where
  own : OwnK iκ wr (q + 1) 3 X out.length cc (out.map Int.ofNat)
  prc : Cel wr q cs
  bel : Below q w wr
  le : q + 1 ≤ wr.heap.size
theorem OS.below {w wr w' : World} {q cc : Nat} {cs : List Value} {X : Option Addr} {out : List Nat} (h : OS w wr q cs X cc out) (hb : Below wr.heap.size wr w') : OS w w' q cs X cc out :=
  ⟨h.own.below hb (Nat.le_refl _), h.prc.below hb (Nat.le_refl _), h.bel.trans (hb.mono (by have := h.le; omega)), Nat.le_trans h.le hb.size⟩
theorem OS.app {w wr w' : World} {q cc c' t : Nat} {cs : List Value} {X X' : Option Addr} {out : List Nat} (h : OS w wr q cs X cc out) (hg : Grew wr w' (.slice X out.length cc) (.slice X' (out.length + 1) c')) (ho : OwnK iκ w' (q + 1) 3 X' (out.length + 1) c' (out.map Int.ofNat ++ [(t : Int)])) :
    OS w w' q cs X' c' (out ++ [t]) := by
  have hne : ∀ b, b < q + 1 → (Value.slice X out.length cc).ownBlock ≠ some b := fun b hb => own_ne fun a ha e => by have := (h.own.block ha).1; omega
  refine ⟨?_, h.prc.kept hg.grown (hne q (by omega)), h.bel.trans ((hg.below h.own.2 h.le).mono (by omega)), Nat.le_trans h.le hg.size⟩
  rw [List.length_append, List.map_append]
  exact ho
theorem any_mem (out : List Nat) (t : Nat) : ((out.map Int.ofNat).any fun y => y == (t : Int)) = decide (t ∈ out) := by
  rw [Bool.eq_iff_iff, List.any_eq_true, decide_eq_true_iff]
  constructor
  · rintro ⟨y, hy, e⟩
    obtain ⟨x, hx, rfl⟩ := List.mem_map.1 hy
    have e := beq_iff_eq.1 e
    have e : (x : Int) = (t : Int) := e
    obtain rfl : x = t := by omega
    exact hx
  · intro h
    exact ⟨_, List.mem_map.2 ⟨t, h, rfl⟩, beq_iff_eq.2 rfl⟩
section
variable (s : ByteArray) (A : Option Addr) (n c : Nat) (F : Option Addr) (m d : Nat) (fl : List Fl)
set_option maxHeartbeats 6400000 in
set_option maxRecDepth 10000 in
theorem reforder_any (w : World) (hF : KRow Fl.κ w w.heap.size F m fl) (hn : n ≤ 100000) (hm : m ≤ 100000) :
    Calls Try.prog 13 #[.agg #[.string s, .slice A n c, .slice F m d]] w (OrdOut n (nxt n fl m) w) := by
  obtain ⟨i0, hi0, hz0, hz1, hz2⟩ := info_parts info_int
  obtain rfl : fl.length = m := hF.len (by decide)
  have hba : Below w.heap.size w (w.alloc (.cells #[.string s, .slice A n c, .slice F fl.length d] 25)) := (Below.refl _ _).alloc (Nat.le_refl _) _
  have hsz : (w.alloc (.cells #[.string s, .slice A n c, .slice F fl.length d] 25)).heap.size = w.heap.size + 1 := by simp
  have HO : Hid (OS w (w.alloc (.cells #[.string s, .slice A n c, .slice F fl.length d] 25)) w.heap.size [.string s, .slice A n c, .slice F fl.length d] none 0 []) := Lib.hid ⟨⟨by decide, rfl, .inl ⟨rfl, rfl⟩⟩, Cel.lit w #[.string s, .slice A n c, .slice F fl.length d] 25, hba, by omega⟩
  have HFW := Lib.hid hF
  have HFA := Lib.hid (fun (out : List Nat) (t : Nat) => fre_all (n := n) (t := t) (fl := fl) (out := out))
  clear hF hba hsz
  obtain ⟨L, hL⟩ : ∃ L, L = nxt n fl fl.length := ⟨_, rfl⟩
  rw [← hL] at HFA ⊢
  clear hL
  have en : IntKind.i64.wrap ((n : Int) - 1) = (n : Int) - 1 := by rw [IntKind.wrap_i64]; omega
  go_enter Try.func13, Try.ntmps13
  go_upto_region 1 with (fail)
  generalize w.alloc _ = wa at *
  go_wp2_with fail
  go_loopw [4] (fun v wr => ∃ (X : Option Addr) (out : List Nat) (cc : Nat), v = .slice X out.length cc ∧ Rc.ord n L = Rc.ordF n L (n - out.length) out ∧ Rc.Top n L out ∧ OS w wr w.heap.size [.string s, .slice A n c, .slice F fl.length d] X cc out) (fun v _ => n - lenOf v)
  case atStart => exact ⟨none, [], 0, rfl, rfl, Rc.Top.nil _ _, HO.out⟩
  case round =>
    obtain ⟨X, out, cc, rfl, ho, ht, hos⟩ := hrel
    have hol := ht.len
    have HORD := Lib.hid ho
    have HTOP := Lib.hid ht
    have HOS := Lib.hid hos
    obtain ⟨⟨z0, z1, z2⟩, _⟩ := tri_facts hos.prc
    clear ho ht hos HO
    by_cases hlt : out.length < n
    · have hI : (out.length : Int) < (n : Int) := by omega
      have HHAS := Lib.hid (fun (t : Nat) => refhas_any X out.length cc (out.map Int.ofNat) wr.heap.size (t : Int) wr HOS.out.own.row (by omega))
      go_wp2_with fail
      go_loopw [5, 6] (fun b i wx => ∃ (t : Nat) (x bst : Int), t ≤ n ∧ i = .int .i64 x ∧ x = (t : Int) - 1 ∧ b = .int .i64 bst ∧ Least n L out t bst ∧ wx = wr) (fun _ i _ => (intOf i + 1).toNat)
      case atStart => exact ⟨n, _, -1, Nat.le_refl _, rfl, rfl, rfl, least_top, rfl⟩
      case round =>
        obtain ⟨t, x, bst, htn, rfl, hx, rfl, hle, hwx⟩ := hrel
        subst hwx
        by_cases ht0 : 0 < t
        · obtain ⟨t, rfl⟩ : ∃ t', t = t' + 1 := ⟨t - 1, by omega⟩
          obtain rfl : x = (t : Int) := by omega
          have HLE := Lib.hid hle
          have htN : t < n := by omega
          have hge : (t : Int) ≥ 0 := by omega
          have en2 : IntKind.i64.wrap ((t : Int) - 1) = (t : Int) - 1 := by rw [IntKind.wrap_i64]; omega
          clear hle hx
          go_wp2_with fail
          refine (HHAS.out t).mono ?_
          rintro e wx ⟨rfl, hw⟩
          subst hw
          rw [any_mem]
          generalize hb : decide (t ∈ out) = b0
          have HB0 : Hid ((!b0) = true ↔ Fre n fl out t 0) := Lib.hid (by rw [fre_zero, ← hb]; simp)
          clear hb
          go_wp2_with fail
          go_loopw [7, 8] (fun q k wx => ∃ (kk : Nat) (b : Bool), kk ≤ fl.length ∧ k = .int .i64 kk ∧ q = .bool b ∧ (b = true ↔ Fre n fl out t kk) ∧ wx = wr) (fun _ k _ => fl.length - (intOf k).toNat)
          case atStart => exact ⟨0, !b0, Nat.zero_le _, rfl, rfl, HB0.out, rfl⟩
          case round =>
            obtain ⟨kk, b, hkk, rfl, rfl, hfr, hwx⟩ := hrel
            subst hwx
            have HFR := Lib.hid hfr
            have hk0 : (0 : Int) ≤ (kk : Int) := by omega
            clear hfr
            by_cases hlk : kk < fl.length
            · have hJ : (kk : Int) < (fl.length : Int) := by omega
              obtain ⟨b1, off, rfl, _, _⟩ := HFW.out.2 (by omega)
              obtain ⟨y0, y1, y2⟩ := fl_at (HFW.out.below HOS.out.bel (Nat.le_refl _)) hlk
              have HKP := Lib.hid (fre_keep (n := n) (t := t) (k := kk) (fl := fl) (out := out))
              have HLO := Lib.hid (fre_lost (n := n) (t := t) (k := kk) (fl := fl) (out := out))
              have HOK := Lib.hid (within_okF (n := n) (f := fl[kk]!))
              generalize fl[kk]! = g at *
              obtain ⟨frm, til, cond⟩ := g
              dsimp only at y0 y1 y2
              by_cases hti : til = (t : Int)
              · subst hti
                have hB : ((t : Int) == (t : Int)) = true := by simp
                have W1 := Lib.hid (fun W => refwithin_any frm 0 ((n : Int) - 1) W)
                have hok := HOK.out
                try dsimp only at hok
                go_wp2_with fail
                refine (W1.out _).mono ?_
                rintro e wx ⟨rfl, hw⟩
                subst hw
                cases h1 : within frm 0 ((n : Int) - 1) with
                | false =>
                  rw [h1] at hok
                  clear W1
                  have HN := Lib.hid (HFR.out.trans (HKP.out (.inl hok.symm)).symm)
                  go_wp2_with fail
                  go_roundw
                  case measure => exact measF hlk
                  case rel => exact ⟨kk + 1, b, hlk, by go_num, rfl, HN.out, by first | trivial | rfl⟩
                | true =>
                  have h2 : within (t : Int) 0 ((n : Int) - 1) = true := by
                    unfold within
                    simp only [Bool.and_eq_true, decide_eq_true_eq]
                    omega
                  rw [h1, h2] at hok
                  obtain ⟨x, rfl, hxn⟩ := within_nat h1
                  have HOK2 := Lib.hid hok.symm
                  clear W1 h1 h2 hok
                  go_wp2_with fail
                  refine (HHAS.out x).mono ?_
                  rintro e wx ⟨rfl, hw⟩
                  subst hw
                  rw [any_mem]
                  by_cases hxo : x ∈ out
                  · rw [decide_eq_true hxo]
                    have HN := Lib.hid (HFR.out.trans (HKP.out (.inr (.inr (by simpa using hxo)))).symm)
                    go_wp2_with fail
                    go_roundw
                    case measure => exact measF hlk
                    case rel => exact ⟨kk + 1, b, hlk, by go_num, rfl, HN.out, by first | trivial | rfl⟩
                  · rw [decide_eq_false hxo]
                    have HN : Hid (false = true ↔ Fre n fl out t (kk + 1)) := Lib.hid ⟨fun h => (by cases h), fun h => absurd h (HLO.out HOK2.out (by first | trivial | rfl) (by simpa using hxo))⟩
                    go_wp2_with fail
                    go_roundw
                    case measure => exact measF hlk
                    case rel => exact ⟨kk + 1, false, hlk, by go_num, rfl, HN.out, by first | trivial | rfl⟩
              · have hB : (til == (t : Int)) = false := by rw [beq_eq_false_iff_ne]; exact hti
                have HTI := Lib.hid hti
                clear hti
                have HN := Lib.hid (HFR.out.trans (HKP.out (.inr (.inl HTI.out))).symm)
                go_wp2_with fail
                go_roundw
                case measure => exact measF hlk
                case rel => exact ⟨kk + 1, b, hlk, by go_num, rfl, HN.out, by first | trivial | rfl⟩
            · obtain rfl : kk = fl.length := by omega
              have hJ : ¬ ((fl.length : Int) < (fl.length : Int)) := by omega
              have HFX := Lib.hid (HFR.out.trans (HFA.out out t))
              have hms : (intOf (.int .i64 ((t : Int) - 1)) + 1).toNat < (intOf (.int .i64 (t : Int)) + 1).toNat := by
                show ((t : Int) - 1 + 1).toNat < ((t : Int) + 1).toNat
                omega
              have HMS := Lib.hid hms
              clear hms
              cases b with
              | true =>
                have HL2 := Lib.hid (least_yes htN (HFX.out.1 rfl))
                go_wp2_with fail
                go_roundw
                case measure => exact HMS.out
                case rel => exact ⟨t, (t : Int) - 1, (t : Int), by omega, rfl, rfl, rfl, HL2.out, by first | trivial | rfl⟩
              | false =>
                have HL2 := Lib.hid (least_no HLE.out (by
                  cases hq : Rc.free n L out t with
                  | false => rfl
                  | true => exact absurd (HFX.out.2 hq) (by decide)))
                go_wp2_with fail
                go_roundw
                case measure => exact HMS.out
                case rel => exact ⟨t, (t : Int) - 1, bst, by omega, rfl, rfl, rfl, HL2.out, by first | trivial | rfl⟩
        · obtain rfl : t = 0 := by omega
          obtain rfl : x = -1 := by omega
          have hge : ¬ ((-1 : Int) ≥ 0) := by decide
          clear hx
          rcases hle with ⟨rfl, hno⟩ | ⟨u, rfl, hu, _, hfu, hmin⟩
          · have HF : Hid (OrdOut n L w (.returned (.tuple #[.slice none 0 0, .bool false])) wr) := Lib.hid ⟨.inr (by
              have e : Rc.ord n L = out := by rw [HORD.out]; exact Rc.ordF_none (Rc.nextOf_none fun v hv => hno v (Nat.zero_le _) hv) _
              rw [e]
              exact ⟨hlt, rfl⟩), HOS.out.bel⟩
            have hng : (-1 : Int) < 0 := by decide
            clear hno
            go_wp2
            go_ret2
            exact HF.out
          · have hnx := Rc.nextOf_some hu hfu (fun v hv => hmin v (Nat.zero_le _) hv)
            have htop2 := HTOP.out.snoc hu hfu
            have HTOP2 := Lib.hid htop2
            have hol2 := htop2.len
            rw [List.length_append, List.length_singleton] at hol2
            have HORD2 : Hid (Rc.ord n L = Rc.ordF n L (n - (out ++ [u]).length) (out ++ [u])) := by
              refine Lib.hid ?_
              rw [HORD.out, List.length_append, List.length_singleton, show n - out.length = (n - (out.length + 1)) + 1 from by omega]
              exact Rc.ordF_some hnx
            have hu0 : (0 : Int) ≤ (u : Int) := by omega
            have hun : ¬ ((u : Int) < 0) := by omega
            have hba : Below wr.heap.size wr (wr.alloc (.cells #[.int .i64 (u : Int)] 3)) := (Below.refl _ _).alloc (Nat.le_refl _) _
            have HKa := Lib.hid (HOS.out.below hba)
            have HR : Hid (KRow iκ (wr.alloc (.cells #[.int .i64 (u : Int)] 3)) (wr.heap.size + 1) (some ⟨wr.heap.size, 0, none⟩) 1 [(u : Int)]) := Lib.hid (KRow.lit (κ := iκ) wr 3 [(u : Int)] #[.int .i64 u] rfl)
            clear hba hnx htop2 hfu hmin
            go_wp2_with (at_builtin; refine append_k (κ := iκ) rfl (.tmp 67) (.tmp 69) 26 3 i0 _ 8 Try.underlying26 hi0 hz0 hz1 hz2 rfl rfl _ (w.heap.size + 1) _ X out.length cc _ ⟨wr.heap.size, 0, none⟩ (u : Int) rfl HKa.out.own rfl HR.out (by omega) (by decide) HKa.out.le ?_; intro X' cc' w' ho' hg')
            have HK2 := Lib.hid (HKa.out.app hg' ho')
            clear ho' hg'
            go_wp2_with fail
            go_roundw
            case measure => show n - (out.length + 1) < n - out.length; omega
            case rel => exact ⟨X', out ++ [u], cc', by rw [List.length_append]; rfl, HORD2.out, HTOP2.out, HK2.out⟩
    · have hle : out.length = n := by omega
      subst hle
      have hI : ¬ ((out.length : Int) < (out.length : Int)) := by omega
      have HF : Hid (OrdOut out.length L w (.returned (.tuple #[.slice X out.length cc, .bool true])) wr) := Lib.hid ⟨.inl (by
        have e : Rc.ord out.length L = out := by rw [HORD.out, Nat.sub_self]; rfl
        rw [e]
        exact ⟨rfl, X, cc, rfl, HOS.out.own.lower (by omega)⟩), HOS.out.bel⟩
      go_wp2
      go_ret2
      exact HF.out
end
end Pr
end Go.Proofs.Ytjdgloofdafebaa
