/- Walks of package cond: a bracket's or operator's length; a text; the word that begins at a place. Mathematics of package cond: what a sign tells, by its word's text. The document's parser: a sign, and all its parts. -/
import Derived.Test.YtddedbpbenkdoaaGreatDoorYProcessOne1
import Derived.Test.YtddedbpbenkdoaaGreatDoorDdY
import Derived.Test.YtddedbpbenkdoaaGreatDoorDmY
namespace Go.Proofs.YtddedbpbenkdoaaGreatDoor
open Go.RowKit

theorem Co.index_has : ∀ (m : List UInt8) (x : UInt8), (m.contains x = true → 0 ≤ Lib.indexByte m x) ∧ (m.contains x = false → Lib.indexByte m x = -1)
  | [], _ => ⟨by simp, fun _ => rfl⟩
  | b :: m, x => by
    have ih := Co.index_has m x
    unfold Lib.indexByte
    by_cases e : b = x
    · subst e; simp
    · have e1 : (b == x) = false := by simpa using e
      have e2 : (x == b) = false := by simpa using fun h => e h.symm
      rw [List.contains_cons, e1, e2, if_neg (by simp), Bool.false_or]
      refine ⟨fun h => ?_, fun h => ?_⟩
      · have h1 := ih.1 h
        rw [if_neg (by simp; omega)]
        omega
      · rw [ih.2 h]; rfl
theorem at_list (s : ByteArray) (k : Nat) (h : k < s.size) : s.data.toList[k]! = s[k] := by
  rw [getElem!_pos s.data.toList k (by simpa using h)]
  simp [ByteArray.getElem_eq_getElem_data]
theorem index_byte (s : ByteArray) (m : List UInt8) (x : UInt8) (hs : s.data.toList = m) (w : World) :
    Calls Tryz.prog 88 #[.string s, .int .u8 (x.toNat : Int)] w fun e w' => e = .returned (.int .i64 (Lib.indexByte m x)) ∧ w = w' := by
  have h : Calls Tryz.prog 88 #[.string s, .int .u8 (x.toNat : Int)] w fun e w' => e = .returned (.int .i64 (Lib.indexByte s.data.toList ((x.toNat : Int).toNat.toUInt8))) ∧ w' = w :=
    Any.strings_IndexByte shLays137 s (x.toNat : Int) w
  have hx : (x.toNat : Int).toNat.toUInt8 = x := by simp
  rw [hx, hs] at h
  refine h.mono ?_
  rintro e w' ⟨h1, h2⟩
  exact ⟨h1, h2.symm⟩

set_option maxHeartbeats 1600000 in
theorem cmark_any (s : ByteArray) (w : World) (h0 : 0 < s.size) (hsz : s.size ≤ 80) :
    Calls Tryz.prog 78 #[.string s] w fun e w' => e = .returned (.int .i64 (Co.markLen s.data.toList : Int)) ∧ w = w' := by
  have hl : s.data.toList.length = s.size := by simp
  have hF := fun W => index_byte ⟨#[61, 33, 60, 62]⟩ [61, 33, 60, 62] s[0] rfl W
  have hN := fun W => index_byte ⟨#[40, 41, 60, 62, 43, 45, 42, 47, 37]⟩ Co.marks s[0] rfl W
  have hf := Co.index_has [61, 33, 60, 62] s[0]
  have hn := Co.index_has Co.marks s[0]
  have hm : Co.markLen s.data.toList = if 1 < s.data.toList.length ∧ s.data.toList[1]! = 61 ∧ ([61, 33, 60, 62] : List UInt8).contains (s.data.toList[0]!) = true then 2
    else if Co.marks.contains (s.data.toList[0]!) = true then 1 else 0 := rfl
  rw [at_list s 0 h0, hl] at hm
  have h0' : (0 : Int) < (s.size : Int) := by omega
  have hz : (Co.marks.contains s[0] = true ∧ 0 ≤ Lib.indexByte Co.marks s[0]) ∨ (Co.marks.contains s[0] = false ∧ Lib.indexByte Co.marks s[0] < 0) := by
    cases h : Co.marks.contains s[0] with
    | true => exact .inl ⟨rfl, hn.1 h⟩
    | false => exact .inr ⟨rfl, by rw [hn.2 h]; omega⟩
  have hy : (([61, 33, 60, 62] : List UInt8).contains s[0] = true ∧ 0 ≤ Lib.indexByte [61, 33, 60, 62] s[0]) ∨ (([61, 33, 60, 62] : List UInt8).contains s[0] = false ∧ Lib.indexByte [61, 33, 60, 62] s[0] < 0) := by
    cases h : ([61, 33, 60, 62] : List UInt8).contains s[0] with
    | true => exact .inl ⟨rfl, hf.1 h⟩
    | false => exact .inr ⟨rfl, by rw [hf.2 h]; omega⟩
  clear hf hn hl
  generalize Lib.indexByte Co.marks s[0] = z9 at *
  generalize Lib.indexByte [61, 33, 60, 62] s[0] = z4 at *
  generalize Co.marks.contains s[0] = c9 at *
  generalize ([61, 33, 60, 62] : List UInt8).contains s[0] = c4 at *
  have HF := Lib.hid hF
  have HN := Lib.hid hN
  clear hF hN
  by_cases h1 : 1 < s.size
  · rw [at_list s 1 h1] at hm
    have h1' : (1 : Int) < (s.size : Int) := by omega
    have he : s[1] = 61 ↔ (s[1].toNat : Int) = 61 := ⟨fun h => by rw [h]; rfl, fun h => UInt8.toNat_inj.1 (by simp; omega)⟩
    simp only [he] at hm
    have HM := Lib.hid hm
    clear hm he
    by_cases e61 : (s[1].toNat : Int) = 61
    · rcases hy with ⟨rfl, hy⟩ | ⟨rfl, hy⟩
      · have HR : Hid (Co.markLen s.data.toList = 2) := HM.out.trans (if_pos ⟨h1, e61, rfl⟩)
        clear HM hz HN
        go_enter Tryz.func78, Tryz.ntmps78
        go_wp2_with fail
        refine (HF.out _).mono ?_
        rintro e w' ⟨rfl, rfl⟩
        go_wp2
        go_ret
        rw [HR.out]
        exact ⟨rfl, rfl⟩
      · have HM : Hid (Co.markLen s.data.toList = if c9 = true then 1 else 0) := HM.out.trans (if_neg (by simp))
        rcases hz with ⟨rfl, hz⟩ | ⟨rfl, hz⟩
        all_goals
          go_enter Tryz.func78, Tryz.ntmps78
          go_wp2_with fail
          refine (HF.out _).mono ?_
          rintro e w' ⟨rfl, rfl⟩
          go_wp2_with fail
          refine (HN.out _).mono ?_
          rintro e w' ⟨rfl, rfl⟩
          go_wp2
          go_ret
          rw [HM.out]
          exact ⟨rfl, rfl⟩
    · have HM : Hid (Co.markLen s.data.toList = if c9 = true then 1 else 0) := HM.out.trans (if_neg (fun h => e61 h.2.1))
      clear hy HF
      rcases hz with ⟨rfl, hz⟩ | ⟨rfl, hz⟩
      all_goals
        go_enter Tryz.func78, Tryz.ntmps78
        go_wp2_with fail
        refine (HN.out _).mono ?_
        rintro e w' ⟨rfl, rfl⟩
        go_wp2
        go_ret
        rw [HM.out]
        exact ⟨rfl, rfl⟩
  · rw [if_neg (by simp [h1])] at hm
    have h1' : ¬ (1 : Int) < (s.size : Int) := by omega
    clear h1 hsz
    have HM := Lib.hid hm
    clear hm hy HF
    rcases hz with ⟨rfl, hz⟩ | ⟨rfl, hz⟩
    all_goals
      go_enter Tryz.func78, Tryz.ntmps78
      go_wp2_with fail
      refine (HN.out _).mono ?_
      rintro e w' ⟨rfl, rfl⟩
      go_wp2
      go_ret
      rw [HM.out]
      exact ⟨rfl, rfl⟩
end Go.Proofs.YtddedbpbenkdoaaGreatDoor
namespace Go.Proofs.YtddedbpbenkdoaaGreatDoor
open Go.RowKit

namespace Co
section
variable {l : List UInt8} {st : St}
theorem tw_all (p : UInt8 → Bool) : ∀ t : List UInt8, ∀ c ∈ t.takeWhile p, p c = true
  | [], c, h => by cases h
  | x :: t, c, h => by
    rw [List.takeWhile_cons] at h
    by_cases e : p x = true
    · rw [if_pos e] at h
      cases h with
      | head => exact e
      | tail _ h => exact tw_all p t c h
    · rw [if_neg e] at h; cases h
theorem tw_prefix (p : UInt8 → Bool) : ∀ t : List UInt8, t.take (t.takeWhile p).length = t.takeWhile p
  | [] => rfl
  | x :: t => by
    rw [List.takeWhile_cons]
    by_cases e : p x = true
    · rw [if_pos e, List.length_cons, List.take_succ_cons, tw_prefix p t]
    · rw [if_neg e]; rfl
/-- A word of letters holds nothing else. -/
theorem Gd.word_all (h : Gd l st) (he : st.err = none) (ht : text l st ≠ []) (hw : ofWord (text l st)[0]! = true) : ∀ c ∈ text l st, ofWord c = true := by
  obtain ⟨h1, h2⟩ := h.word he
  have hm : st.till = (wordAt l st.frm).2.2 := by rw [← h2]
  have hlt : st.frm < st.till := by
    rcases Nat.lt_or_ge st.frm st.till with h | h
    · exact h
    · exact absurd (by unfold text; rw [show st.till - st.frm = 0 from by omega]; rfl) ht
  have hll := (h.facts he).2.1
  have h0 : (text l st)[0]! = l[st.frm]! := by
    unfold text
    have h1 : 0 < st.till - st.frm := by omega
    simp [List.getElem!_eq_getElem?_getD, h1]
  rw [h0] at hw
  have hx : (wordAt l st.frm).2.2 = ends ofWord l st.frm := by
    unfold wordAt
    rw [if_neg (by omega), if_pos hw]
  rw [hx] at hm
  have : text l st = (l.drop st.frm).takeWhile ofWord := by
    unfold text
    rw [hm]
    unfold ends
    rw [Nat.add_sub_cancel_left]
    exact tw_prefix ofWord _
  rw [this]
  exact tw_all ofWord _
theorem sign_of {c : UInt8} (h : ofWord c = true) : Vr.sign c = true := by
  unfold ofWord digit at h
  unfold Vr.sign
  simp only [Bool.or_eq_true, Bool.and_eq_true, decide_eq_true_eq, beq_iff_eq] at h ⊢
  omega
/-- What a sign tells where its word is neither '-' nor '('. -/
inductive Class (l : List UInt8) (br : St → Out) (st : St) : Prop
  | tru (h : text l st = [116, 114, 117, 101]) (e : Tr) (hf : single l br st = some (e, next l st))
  | fal (h : text l st = [102, 97, 108, 115, 101]) (e : Tr) (hf : single l br st = some (e, next l st))
  | txt (h2 : 2 ≤ (text l st).length) (h : (text l st)[0]! = 34) (e : Tr) (hf : single l br st = some (e, next l st))
  | num (h1 : 1 ≤ (text l st).length) (h2 : (text l st).length ≤ 9) (hd : ∀ k, k < (text l st).length → 48 ≤ ((text l st)[k]!).toNat ∧ ((text l st)[k]!).toNat ≤ 57) (e : Tr) (hf : single l br st = some (e, next l st))
  | numbad (b : Nat) (h1 : 1 ≤ b) (h2 : b < (text l st).length) (h9 : b ≤ 9) (hd : ∀ k, k < b → 48 ≤ ((text l st)[k]!).toNat ∧ ((text l st)[k]!).toNat ≤ 57) (hb : ((text l st)[b]!).toNat < 48 ∨ 57 < ((text l st)[b]!).toNat ∨ b = 9)
      (e : Tr) (hf : single l br st = some (e, next l (fail 111 st)))
  | name (h1 : 1 ≤ (text l st).length) (h2 : (text l st).length ≤ 24) (ha : 97 ≤ ((text l st)[0]!).toNat) (hz : ((text l st)[0]!).toNat ≤ 122) (hw : ∀ m ∈ ([[111, 114], [97, 110, 100], [110, 111, 116], [116, 114, 117, 101], [102, 97, 108, 115, 101]] : List (List UInt8)), text l st ≠ m)
      (e : Tr) (hf : single l br st = some (e, next l st))
  | nil (h : text l st = []) (e : Tr) (hf : single l br st = some (e, next l (fail 111 st)))
  | kw (h : text l st = [111, 114] ∨ text l st = [97, 110, 100] ∨ text l st = [110, 111, 116]) (e : Tr) (hf : single l br st = some (e, next l (fail 111 st)))
  | low (h1 : 1 ≤ (text l st).length) (hc : ((text l st)[0]!).toNat < 48) (h34 : (text l st)[0]! ≠ 34) (e : Tr) (hf : single l br st = some (e, next l (fail 111 st)))
  | mid (h1 : 1 ≤ (text l st).length) (hc : 57 < ((text l st)[0]!).toNat) (hc2 : ((text l st)[0]!).toNat < 97) (e : Tr) (hf : single l br st = some (e, next l (fail 111 st)))
  | high (h1 : 1 ≤ (text l st).length) (hc : 122 < ((text l st)[0]!).toNat) (e : Tr) (hf : single l br st = some (e, next l (fail 111 st)))
  | long (hc : 97 ≤ ((text l st)[0]!).toNat) (hc2 : ((text l st)[0]!).toNat ≤ 122) (hl : 24 < (text l st).length) (e : Tr) (hf : single l br st = some (e, next l (fail 111 st)))
theorem single_kind {br : St → Out} (hm : isM l st [40] = false) (h2 : st.kind ≠ 2) (h3 : st.kind ≠ 3) (h4 : st.kind ≠ 4) (h5 : st.kind ≠ 5) : single l br st = some (.leaf 1 0 0 [] [], next l (fail 111 st)) := by
  unfold single
  rw [if_neg (by rw [hm]; decide), if_neg h2, if_neg h3, if_neg h4, if_neg h5]
/-- The first sign that is no digit, or the tenth. -/
theorem first_bad (t : List UInt8) : ∀ b, (∀ k, k < b → 48 ≤ (t[k]!).toNat ∧ (t[k]!).toNat ≤ 57) → b ≤ t.length → b ≤ 9 → (¬ (t.length ≤ 9 ∧ t.all digit = true)) →
    ∃ c, b ≤ c ∧ c < t.length ∧ c ≤ 9 ∧ (∀ k, k < c → 48 ≤ (t[k]!).toNat ∧ (t[k]!).toNat ≤ 57) ∧ ((t[c]!).toNat < 48 ∨ 57 < (t[c]!).toNat ∨ c = 9) := by
  intro b
  induction hn : 9 - b generalizing b with
  | zero =>
    intro hd hb h9 hx
    refine ⟨b, Nat.le_refl _, ?_, h9, hd, .inr (.inr (by omega))⟩
    rcases Nat.lt_or_ge b t.length with h | h
    · exact h
    · exfalso
      refine hx ⟨by omega, List.all_eq_true.2 fun c hc => ?_⟩
      obtain ⟨k, hk, rfl⟩ := List.getElem_of_mem hc
      have := hd k (by omega)
      rw [getElem!_pos t k hk] at this
      unfold digit
      simp only [Bool.and_eq_true, decide_eq_true_eq]
      exact this
  | succ n ih =>
    intro hd hb h9 hx
    rcases Nat.lt_or_ge b t.length with h | h
    · by_cases hg : 48 ≤ (t[b]!).toNat ∧ (t[b]!).toNat ≤ 57
      · obtain ⟨c, h1, h2⟩ := ih (b + 1) (by omega) (fun k hk => by
          rcases Nat.lt_or_ge k b with h | h
          · exact hd k h
          · obtain rfl : k = b := by omega
            exact hg) (by omega) (by omega) hx
        exact ⟨c, by omega, h2⟩
      · exact ⟨b, Nat.le_refl _, h, h9, hd, by omega⟩
    · exfalso
      refine hx ⟨by omega, List.all_eq_true.2 fun c hc => ?_⟩
      obtain ⟨k, hk, rfl⟩ := List.getElem_of_mem hc
      have := hd k (by omega)
      rw [getElem!_pos t k hk] at this
      unfold digit
      simp only [Bool.and_eq_true, decide_eq_true_eq]
      exact this
theorem class_of (h : Gd l st) (he : st.err = none) (hk : text l st = [] → st.kind = 1) (br : St → Out) (h40 : text l st ≠ [40]) : Class l br st := by
  have hm : isM l st [40] = false := by rw [h.isM he [40] (by decide) (by decide)]; exact decide_eq_false h40
  by_cases hn : text l st = []
  · have := hk hn
    exact .nil hn _ (single_kind hm (by omega) (by omega) (by omega) (by omega))
  have hl1 : 1 ≤ (text l st).length := by
    cases ht : text l st with
    | nil => exact absurd ht hn
    | cons a b => simp
  have hkd := h.kind he hn
  by_cases hT : text l st = [116, 114, 117, 101]
  · have h4 : st.kind = 4 := by rw [hkd, hT]; decide
    refine .tru hT (.leaf 1 2 (if text l st = [116, 114, 117, 101] then 1 else 0) [] []) ?_
    unfold single
    rw [if_neg (by rw [hm]; decide), if_neg (by omega), if_neg (by omega), if_pos h4]
  by_cases hF : text l st = [102, 97, 108, 115, 101]
  · have h4 : st.kind = 4 := by rw [hkd, hF]; decide
    refine .fal hF (.leaf 1 2 (if text l st = [116, 114, 117, 101] then 1 else 0) [] []) ?_
    unfold single
    rw [if_neg (by rw [hm]; decide), if_neg (by omega), if_neg (by omega), if_pos h4]
  by_cases hkw : text l st = [111, 114] ∨ text l st = [97, 110, 100] ∨ text l st = [110, 111, 116]
  · have h6 : st.kind = 6 := by
      rw [hkd]
      rcases hkw with e | e | e <;> rw [e] <;> decide
    exact .kw hkw _ (single_kind hm (by omega) (by omega) (by omega) (by omega))
  have hall := h.word_all he hn
  have hfacts := h.facts he
  generalize hst : text l st = t at *
  by_cases h34 : t[0]! = 34
  · have h3 : st.kind = 3 := by
      rw [hkd]
      unfold V
      rw [if_neg (by rw [h34]; decide), if_pos h34]
    have h2l := hfacts.2.2.2.2 h3
    refine .txt (by rw [hst]; exact h2l) (by rw [hst]; exact h34) (.leaf 1 3 0 ((t.drop 1).take (t.length - 2)) []) ?_
    unfold single
    rw [if_neg (by rw [hm]; decide), if_neg (by omega), if_pos h3, hst, if_pos h2l]
  by_cases hw : ofWord t[0]! = true
  · have hV : V t = kindOf t := by unfold V; rw [if_pos hw]
    rw [hV] at hkd
    have hk3 : kindOf t = if t.length ≤ 9 ∧ t.all digit = true then 2 else if digit t[0]! = false ∧ t[0]! ≠ 95 ∧ Vr.name t = true then 5 else 0 := by
      unfold kindOf
      rw [if_neg hkw, if_neg (by rintro (e | e); exact hT e; exact hF e)]
    have hall := hall hw
    by_cases hd : digit t[0]! = true
    · have hd2 : 48 ≤ (t[0]!).toNat ∧ (t[0]!).toNat ≤ 57 := by
        unfold digit at hd
        simpa [Bool.and_eq_true, decide_eq_true_eq] using hd
      by_cases hg : t.length ≤ 9 ∧ t.all digit = true
      · have h2 : st.kind = 2 := by rw [hkd, hk3, if_pos hg]
        refine .num (by rw [hst]; exact hl1) (by rw [hst]; exact hg.1) (fun k hk => ?_) (.leaf 1 1 (numOf t) [] []) ?_
        · rw [hst] at hk ⊢
          have := List.all_eq_true.1 hg.2 t[k]! (by rw [getElem!_pos t k hk]; exact List.getElem_mem _)
          unfold digit at this
          simpa [Bool.and_eq_true, decide_eq_true_eq] using this
        · unfold single
          rw [if_neg (by rw [hm]; decide), if_pos h2, hst, if_pos ⟨hl1, hg⟩]
      · have h0 : st.kind = 0 := by rw [hkd, hk3, if_neg hg, if_neg (by rw [hd]; simp)]
        obtain ⟨b, hb1, hb2, hb9, hbd, hbb⟩ := first_bad t 1 (fun k hk => by obtain rfl : k = 0 := (by omega); exact hd2) hl1 (by decide) hg
        exact .numbad b hb1 (by rw [hst]; exact hb2) hb9 (by rw [hst]; exact hbd) (by rw [hst]; exact hbb) _ (single_kind hm (by omega) (by omega) (by omega) (by omega))
    · have hnd : ¬ (t.length ≤ 9 ∧ t.all digit = true) := fun hg => hd (List.all_eq_true.1 hg.2 t[0]! (by rw [getElem!_pos t 0 hl1]; exact List.getElem_mem _))
      rw [if_neg hnd] at hk3
      rw [Bool.not_eq_true] at hd
      by_cases h95 : t[0]! = 95
      · have h0 : st.kind = 0 := by rw [hkd, hk3, if_neg (fun e => e.2.1 h95)]
        exact .mid (by rw [hst]; exact hl1) (by rw [hst, h95]; decide) (by rw [hst, h95]; decide) _ (single_kind hm (by omega) (by omega) (by omega) (by omega))
      · have haz : 97 ≤ (t[0]!).toNat ∧ (t[0]!).toNat ≤ 122 := by
          unfold ofWord at hw
          rw [hd] at hw
          simp only [Bool.or_false, Bool.or_eq_true, Bool.and_eq_true, decide_eq_true_eq] at hw
          rcases hw with hw | hw
          · exact hw
          · exact absurd (UInt8.toNat_inj.1 (by show _ = 95; exact hw)) h95
        by_cases h24 : t.length ≤ 24
        · have h5 : st.kind = 5 := by
            rw [hkd, hk3, if_pos]
            refine ⟨hd, h95, ?_⟩
            unfold Vr.name
            simp only [Bool.and_eq_true, decide_eq_true_eq, List.all_eq_true]
            exact ⟨⟨hl1, h24⟩, fun c hc => sign_of (hall c hc)⟩
          refine .name (by rw [hst]; exact hl1) (by rw [hst]; exact h24) (by rw [hst]; exact haz.1) (by rw [hst]; exact haz.2) (fun m hmm => ?_) (.leaf 2 0 0 [] t) ?_
          · rw [hst]
            simp only [List.mem_cons, List.not_mem_nil, or_false] at hmm
            rw [not_or, not_or] at hkw
            rcases hmm with rfl | rfl | rfl | rfl | rfl
            · exact hkw.1
            · exact hkw.2.1
            · exact hkw.2.2
            · exact hT
            · exact hF
          · unfold single
            rw [if_neg (by rw [hm]; decide), if_neg (by omega), if_neg (by omega), if_neg (by omega), if_pos h5, hst]
        · have h0 : st.kind = 0 := by
            rw [hkd, hk3, if_neg]
            rintro ⟨_, _, e⟩
            unfold Vr.name at e
            simp only [Bool.and_eq_true, decide_eq_true_eq] at e
            omega
          exact .long (by rw [hst]; exact haz.1) (by rw [hst]; exact haz.2) (by rw [hst]; omega) _ (single_kind hm (by omega) (by omega) (by omega) (by omega))
  · have h6 : st.kind = 6 := by rw [hkd]; unfold V; rw [if_neg hw, if_neg h34]
    have hs := single_kind (br := br) hm (by omega) (by omega) (by omega) (by omega)
    have hnw : ¬ (97 ≤ (t[0]!).toNat ∧ (t[0]!).toNat ≤ 122) ∧ ¬ (48 ≤ (t[0]!).toNat ∧ (t[0]!).toNat ≤ 57) := by
      unfold ofWord digit at hw
      simp only [Bool.or_eq_true, Bool.and_eq_true, decide_eq_true_eq] at hw
      omega
    rcases Nat.lt_or_ge (t[0]!).toNat 48 with h1 | h1
    · exact .low (by rw [hst]; exact hl1) (by rw [hst]; exact h1) (by rw [hst]; exact h34) _ hs
    · rcases Nat.lt_or_ge (t[0]!).toNat 97 with h2 | h2
      · exact .mid (by rw [hst]; exact hl1) (by rw [hst]; omega) (by rw [hst]; exact h2) _ hs
      · exact .high (by rw [hst]; exact hl1) (by rw [hst]; omega) _ hs
end
end Co
end Go.Proofs.YtddedbpbenkdoaaGreatDoor
namespace Go.Proofs.YtddedbpbenkdoaaGreatDoor
open Go.RowKit

section
variable {w w1 : World} {q d : Nat} {s : ByteArray} {st : Co.St}
set_option maxRecDepth 10000 in
set_option maxHeartbeats 800000 in
theorem drow_2 (f : Co.St → Co.Out) (HP : DPart q s 73 #[] d f) : DPart q s 60 #[.int .i64 2] d f := by
  intro st e st' hf w h
  have HZ := Lib.hid (Cel.lit w #[.int .i64 0, .int .i64 0, .int .i64 0, .string ⟨#[]⟩, .string ⟨#[]⟩, .slice none 0 0] 87)
  have H1 := Lib.hid (h.alloc (.cells #[.int .i64 0, .int .i64 0, .int .i64 0, .string ⟨#[]⟩, .string ⟨#[]⟩, .slice none 0 0] 87))
  have hql := h.lt
  have HC := Lib.hid (HP st e st' hf _ H1.out)
  clear h hf
  go_enter Tryz.func60, Tryz.ntmps60
  go_wp2_with fail
  refine HC.out.mono ?_
  rintro e w2 ⟨⟨y, rfl⟩, h2, hg2⟩
  have HZ2 : Hid (Cel w2 w.heap.size Ex.zero.list) := HZ.out.kept hg2 (by intro e; have := Option.some.inj e; omega)
  have H2 := Lib.hid h2
  have HG2 := Lib.hid hg2
  obtain ⟨⟨z0, z1, z2, z3, z4, z5⟩, g0, g1, g2, g3, g4, g5⟩ := HZ2.out.six_of
  clear h2 hg2
  unfold Ex.val
  go_wp2
  have hfin := HZ2.out.six y
  have h3 := H2.out.other (set6_grown w2 w.heap.size y) (by intro e; have := Option.some.inj e; omega)
  have hg3 : w.grownBy (set6 w2 w.heap.size y) (some q) := grown_past (grown_trans (grown_alloc _ _ _) HG2.out) (set6_grown w2 w.heap.size y) (Nat.le_refl _)
  show bodyPost _ _ _ _ _ (set6 w2 w.heap.size y)
  generalize set6 w2 w.heap.size y = wf at *
  obtain ⟨⟨k0, k1, k2, k3, k4, k5⟩, _⟩ := hfin.six_of
  exact bodyPost_ret (v := y.val) (by simp [results, Tryz.results60, go_sem, k0, k1, k2, k3, k4, k5, Ex.val]) rfl ⟨⟨y, rfl⟩, h3, hg3⟩
/-- A sign, by the class of its word. -/
theorem dsign_class (hsz : s.size ≤ 80) {br : Co.St → Co.Out} {e : Co.Tr} {st' : Co.St} (h45 : Co.text s.data.toList st ≠ [45]) (h40 : Co.text s.data.toList st ≠ [40]) (he : st.err = none) (hf : Co.single s.data.toList br st = some (e, st')) (h : DpC w q s st d) (hx : Cel w q ((Dq.good s st d).list s)) (hk : Co.text s.data.toList st = [] → st.kind = 1) :
    Calls Tryz.prog 85 #[.pointer (some ⟨q, 0, none⟩)] w (DEnd q s d st' w) := by
  have end_ : ∀ {e2 : Co.Tr} {st2 : Co.St}, Co.single s.data.toList br st = some (e2, st2) → st2 = st' := fun h2 => by rw [hf] at h2; cases h2; rfl
  have four : Co.text s.data.toList st ≠ [116, 114, 117, 101] → Co.text s.data.toList st ≠ [102, 97, 108, 115, 101] → ∀ m ∈ ([[45], [40], [116, 114, 117, 101], [102, 97, 108, 115, 101]] : List (List UInt8)), Co.text s.data.toList st ≠ m := fun a b m hm => by
    simp only [List.mem_cons, List.not_mem_nil, or_false] at hm
    rcases hm with rfl | rfl | rfl | rfl
    · exact h45
    · exact h40
    · exact a
    · exact b
  cases Co.class_of h.gd he hk br h40 with
  | tru hm e2 h2 => rw [← end_ h2]; exact dsign_true hsz hm he h hx
  | fal hm e2 h2 => rw [← end_ h2]; exact dsign_false hsz hm he h hx
  | txt hl h34 e2 h2 => rw [← end_ h2]; exact dsign_text hsz hl h34 he h hx
  | num h1 h9 hd e2 h2 => rw [← end_ h2]; exact dsign_num hsz h1 h9 hd he h hx
  | numbad b h1 hb h9 hd hbd e2 h2 => rw [← end_ h2]; exact dsign_numbad hsz b h1 hb h9 hd hbd he h hx
  | name h1 h24 ha hz hw e2 h2 => rw [← end_ h2]; exact dsign_name hsz h1 h24 ha hz hw he h hx
  | nil hn e2 h2 => rw [← end_ h2]; exact dsign_end hsz hn he h hx
  | kw hm e2 h2 =>
    rw [← end_ h2]
    rcases hm with hm | hm | hm
    · exact dsign_or hsz hm he h hx
    · exact dsign_and hsz hm he h hx
    · exact dsign_not hsz hm he h hx
  | low h1 hc h34 e2 h2 =>
    rw [← end_ h2]
    refine dsign_low hsz h1 hc h34 (four ?_ ?_) he h hx <;> (intro e; rw [e] at hc; revert hc; decide)
  | mid h1 hc hc2 e2 h2 =>
    rw [← end_ h2]
    refine dsign_mid hsz h1 hc hc2 (four ?_ ?_) he h hx <;> (intro e; rw [e] at hc2; revert hc2; decide)
  | high h1 hc e2 h2 =>
    rw [← end_ h2]
    refine dsign_high hsz h1 hc (four ?_ ?_) he h hx <;> (intro e; rw [e] at hc; revert hc; decide)
  | long hc hc2 hl e2 h2 =>
    rw [← end_ h2]
    refine dsign_longname hsz hc hc2 hl (four ?_ ?_) he h hx <;> (intro e; rw [e] at hl; revert hl; decide)
theorem dsign_any (hsz : s.size ≤ 80) (hd : d ≤ 12) (p6 p0 : Nat → Co.St → Co.Out) (hk6 : d ≠ 12 → Co.Keeps (p6 (d + 1))) (ht6 : d ≠ 12 → Co.Tot s.data.toList (p6 (d + 1)))
    (hk0 : d ≠ 12 → Co.Keeps (p0 (d + 1))) (ht0 : d ≠ 12 → Co.Tot s.data.toList (p0 (d + 1)))
    (HP6 : d ≠ 12 → DPart q s 85 #[] (d + 1) (p6 (d + 1))) (HP0 : d ≠ 12 → DPart q s 60 #[.int .i64 0] (d + 1) (p0 (d + 1))) :
    DPart q s 85 #[] d (Co.under s.data.toList [45] 17 (fun n => Co.behind (p6 n)) (Co.single s.data.toList (Co.bracket s.data.toList p0 d)) d) := by
  intro st e st' hf w h
  have hk : Co.Keeps (Co.under s.data.toList [45] 17 (fun n => Co.behind (p6 n)) (Co.single s.data.toList (Co.bracket s.data.toList p0 d)) d) :=
    Co.under_keeps [45] 17 d (fun h => Co.behind_keeps (hk6 h)) (Co.single_keeps (Co.bracket_keeps d hk0))
  have ht : Co.Tot s.data.toList (Co.under s.data.toList [45] 17 (fun n => Co.behind (p6 n)) (Co.single s.data.toList (Co.bracket s.data.toList p0 d)) d) :=
    Co.under_tot [45] 17 d (fun h => Co.behind_tot (ht6 h)) (Co.single_tot (Co.bracket_tot d ht0))
  obtain ⟨x, hx, hs⟩ := h.ex
  by_cases hb : x.c = 0
  · cases hs with
    | bad a n d' wd c k hc he => exact absurd hb hc
    | fine he hk1 =>
      by_cases h45 : Co.text s.data.toList st = [45]
      · exact dsign_minus hsz hd p6 _ hk6 ht6 HP6 h45 he hf h
      · have hM : Co.isM s.data.toList st [45] = false := by rw [h.gd.isM he [45] (by decide) (by decide)]; exact decide_eq_false h45
        unfold Co.under at hf
        rw [if_neg (by rw [hM]; decide)] at hf
        by_cases h40 : Co.text s.data.toList st = [40]
        · have hM2 : Co.isM s.data.toList st [40] = true := by rw [h.gd.isM he [40] (by decide) (by decide)]; exact decide_eq_true h40
          unfold Co.single at hf
          rw [if_pos hM2] at hf
          exact dsign_bracket hsz hd p0 hk0 ht0 HP0 h40 he hf h
        · exact dsign_class hsz h45 h40 he hf h hx hk1
  · exact dsign_bad _ hk ht hf h hx hs hb
end
section
variable {q : Nat} {s : ByteArray}
/-- What of the parser answers which part. -/
def dFn : Nat → Nat × Array Value
  | 0 => (60, #[.int .i64 0])
  | 1 => (60, #[.int .i64 1])
  | 2 => (73, #[])
  | 4 => (60, #[.int .i64 4])
  | 5 => (60, #[.int .i64 5])
  | _ => (85, #[])
theorem dparts_any (hsz : s.size ≤ 80) : ∀ (f d which : Nat), d ≤ 12 → (which = 0 ∨ which = 1 ∨ which = 2 ∨ which = 4 ∨ which = 5 ∨ which = 6) → (12 - d) * 9 + Co.rk which ≤ f →
    DPart q s (dFn which).1 (dFn which).2 d (Co.parts s.data.toList f which d) := by
  have hl : s.data.toList.length ≤ 80 := by simpa using hsz
  intro f
  induction f using Nat.strongRecOn with
  | ind f IH =>
    intro d which hd hw hf
    have tot : ∀ f w d, d ≤ 12 → w ≤ 8 → (12 - d) * 9 + Co.rk w ≤ f → Co.Tot s.data.toList (Co.parts s.data.toList f w d) := fun f w d a b c => Co.parts_tot hl f w d a b c
    have kee : ∀ f w d, w ≤ 8 → Co.Keeps (Co.parts s.data.toList f w d) := fun f w d h => (Co.parts_keeps (l := s.data.toList) f w d h).1
    rcases hw with rfl | rfl | rfl | rfl | rfl | rfl <;> simp only [Co.rk] at hf
    · obtain ⟨f, rfl⟩ : ∃ g, f = g + 1 := ⟨f - 1, by omega⟩
      exact drow_0 _ hsz (dpart_any _ 0 _ (.inr ⟨by decide, rfl, rfl⟩) _ (kee f 1 d (by decide)) (tot f 1 d hd (by decide) (by simp only [Co.rk]; omega)) (IH f (by omega) d 1 hd (by decide) (by simp only [Co.rk]; omega)))
    · obtain ⟨f, rfl⟩ : ∃ g, f = g + 1 := ⟨f - 1, by omega⟩
      exact drow_1 _ hsz (dpart_any _ 1 _ (.inr ⟨by decide, rfl, rfl⟩) _ (kee f 2 d (by decide)) (tot f 2 d hd (by decide) (by simp only [Co.rk]; omega)) (drow_2 _ (IH f (by omega) d 2 hd (by decide) (by simp only [Co.rk]; omega))))
    · obtain ⟨f, rfl⟩ : ∃ g, f = g + 1 + 1 := ⟨f - 2, by omega⟩
      exact dnot_any hsz hd (Co.parts s.data.toList (f + 1) 2) (Co.parts s.data.toList f 4 d) (fun _ => kee (f + 1) 2 (d + 1) (by decide)) (fun h => tot (f + 1) 2 (d + 1) (by omega) (by decide) (by simp only [Co.rk]; omega))
        (fun h => IH (f + 1) (by omega) (d + 1) 2 (by omega) (by decide) (by simp only [Co.rk]; omega)) (kee f 4 d (by decide)) (tot f 4 d hd (by decide) (by simp only [Co.rk]; omega)) (IH f (by omega) d 4 hd (by decide) (by simp only [Co.rk]; omega))
    · obtain ⟨f, rfl⟩ : ∃ g, f = g + 1 := ⟨f - 1, by omega⟩
      exact drow_4 _ hsz (dpart_any _ 4 _ (.inr ⟨by decide, rfl, rfl⟩) _ (kee f 5 d (by decide)) (tot f 5 d hd (by decide) (by simp only [Co.rk]; omega)) (IH f (by omega) d 5 hd (by decide) (by simp only [Co.rk]; omega)))
    · obtain ⟨f, rfl⟩ : ∃ g, f = g + 1 := ⟨f - 1, by omega⟩
      exact drow_5 _ hsz (dpart_any _ 5 _ (.inl ⟨rfl, rfl, rfl⟩) _ (kee f 6 d (by decide)) (tot f 6 d hd (by decide) (by simp only [Co.rk]; omega)) (IH f (by omega) d 6 hd (by decide) (by simp only [Co.rk]; omega)))
    · obtain ⟨f, rfl⟩ : ∃ g, f = g + 1 + 1 + 1 := ⟨f - 3, by omega⟩
      exact dsign_any hsz hd (Co.parts s.data.toList (f + 1) 6) (Co.parts s.data.toList f 0) (fun _ => kee (f + 1) 6 (d + 1) (by decide)) (fun h => tot (f + 1) 6 (d + 1) (by omega) (by decide) (by simp only [Co.rk]; omega))
        (fun _ => kee f 0 (d + 1) (by decide)) (fun h => tot f 0 (d + 1) (by omega) (by decide) (by simp only [Co.rk]; omega))
        (fun h => IH (f + 1) (by omega) (d + 1) 6 (by omega) (by decide) (by simp only [Co.rk]; omega)) (fun h => IH f (by omega) (d + 1) 0 (by omega) (by decide) (by simp only [Co.rk]; omega))
end
end Go.Proofs.YtddedbpbenkdoaaGreatDoor
