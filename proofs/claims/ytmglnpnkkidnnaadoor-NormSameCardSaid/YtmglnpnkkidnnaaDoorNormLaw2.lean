/- The walks of the laws NormText and NormSame. -/
import Derived.Test.YtmglnpnkkidnnaaDoorNormLaw1
namespace Go.Proofs.YtmglnpnkkidnnaaDoor
set_option linter.unusedVariables false
open Go.RowKit
theorem bs_data' (l : List UInt8) : (⟨l.toArray⟩ : ByteArray).data.toList = l := rfl
theorem of_bytes (s : ByteArray) : s = ⟨s.data.toList.toArray⟩ := rfl
/-- What a form is long. -/
theorem write_len (L : List Int) : ∀ bs, writeP L = some bs → bs.length = (L.map fun c => (encP c).length).sum := by
  induction L with
  | nil => intro bs h; simp [writeP] at h; simp [h]
  | cons c L ih =>
    intro bs h
    unfold writeP at h
    split at h
    · obtain ⟨b', e, rfl⟩ := Option.map_eq_some_iff.1 h
      rw [List.length_append, ih b' e]; simp
    · cases h
theorem sum_le (L : List Int) : (L.map fun c => (encP c).length).sum ≤ 4 * L.length := by
  induction L with
  | nil => simp
  | cons c L ih => simp only [List.map_cons, List.sum_cons, List.length_cons]; have := enc_le c; omega
/-- A form's form can be asked. -/
theorem text_facts {l A : List UInt8} (hl : l.length ≤ 200) (h : textP l = some A) : ∃ xs, readP l = some xs ∧ writeP (charsP xs) = some A ∧ readP A = some (charsP xs) ∧ xs.length ≤ l.length ∧ (charsP xs).length ≤ 10 * xs.length ∧ A.length ≤ 40 * xs.length := by
  cases hr : readP l with
  | none => rw [text_none l hr] at h; cases h
  | some xs =>
    obtain ⟨bs, e1, e2, e3⟩ := text_some l xs hr
    rw [h] at e2; cases e2
    have h1 := read_len l xs hr
    have h2 := flat_len xs
    have h3 := write_len _ _ e1
    have h4 := sum_le (charsP xs)
    have h5 := chars_len xs
    exact ⟨xs, rfl, e1, e3, h1, by omega, by omega⟩
theorem form_short {l A : List UInt8} (hl : l.length ≤ 200) (h : textP l = some A) : Short' A := by
  obtain ⟨xs, h1, h2, h3, h4, h5, h6⟩ := text_facts hl h
  refine ⟨by omega, fun ys hy => ?_⟩
  rw [h3] at hy; cases hy
  rw [flat_self _ (chars_end xs)]; omega
set_option maxHeartbeats 4000000 in
set_option maxRecDepth 100000 in
theorem normText_walk (w : World) (hE : ErrAt w) (hSp : SpAt w) (s : ByteArray) (hs : s.size ≤ maxLen) (t : ByteArray) (ht : t.size ≤ maxLen) :
    Calls Tryd.prog 4 #[.string s, .string t] w fun e w' => e = .returned (.bool true) ∧ Below w.heap.size w w' := by
  have HES : Hid (∀ w', Below w.heap.size w w' → ErrAt w' ∧ SpAt w') := Lib.hid fun w' hb => ⟨hE.below hb, hSp.below hb hSp.1⟩
  have HB := Lib.hid (nbegun_any w hE hSp)
  have HC1 : Hid (∀ w, Calls Tryd.prog 15 #[.string s, .int .i64 120] w fun e w' => ∃ t : ByteArray, e = .returned (.string t) ∧ t.size ≤ 120 ∧ w = w') := Lib.hid (cut_any s 120 (by omega) hs)
  have HC2 : Hid (∀ w, Calls Tryd.prog 15 #[.string t, .int .i64 120] w fun e w' => ∃ t : ByteArray, e = .returned (.string t) ∧ t.size ≤ 120 ∧ w = w') := Lib.hid (cut_any t 120 (by omega) ht)
  clear hE hSp hs ht
  go_enter Tryd.func4, Tryd.ntmps4
  go_wp2_with fail
  refine HB.out.mono ?_
  rintro e w1 ⟨rfl, hb1⟩
  go_wp2_with fail
  refine (HC1.out _).mono ?_
  rintro e w' ⟨s', rfl, hs', rfl⟩
  go_wp2_with fail
  refine (HC2.out _).mono ?_
  rintro e w' ⟨t', rfl, ht', rfl⟩
  have hS : Short' s'.data.toList := short_of (by rw [size_toList]; omega)
  have hT : Short' t'.data.toList := short_of (by rw [size_toList]; omega)
  have hl200 : s'.data.toList.length ≤ 200 := by rw [size_toList]; omega
  have HT : Hid (∀ w', Below w.heap.size w w' → Calls Tryd.prog 16 #[.string s'] w' (TextRes w' (textP s'.data.toList))) := Lib.hid fun w' hb => text_any s' w' hS (HES.out _ hb).1 (HES.out _ hb).2
  have HR : Hid (∀ w', Calls Tryd.prog 17 #[.string s'] w' (TextRes w' (textP s'.data.toList))) := Lib.hid fun w' => rtext_any s' w' hS
  have HR2 : Hid (∀ w', Calls Tryd.prog 17 #[.string t'] w' (TextRes w' (textP t'.data.toList))) := Lib.hid fun w' => rtext_any t' w' hT
  have HI : Hid (∀ w', Below w.heap.size w w' → Calls Tryd.prog 18 #[.string s'] w' fun e w'' => e = .returned (.bool (decide (textP s'.data.toList = some s'.data.toList))) ∧ Below w'.heap.size w' w'') := Lib.hid fun w' hb => is_any s' w' hS (HES.out _ hb).1 (HES.out _ hb).2
  have HS : Hid (∀ w', Below w.heap.size w w' → Calls Tryd.prog 19 #[.string s', .string t'] w' fun e w'' => e = .returned (.bool (sameP s'.data.toList t'.data.toList)) ∧ Below w'.heap.size w' w'') := Lib.hid fun w' hb => same_any s' t' w' hS hT (HES.out _ hb).1 (HES.out _ hb).2
  have HF : Hid (∀ A, textP s'.data.toList = some A → textP A = some A ∧ Short' A) := Lib.hid fun A h => ⟨text_idem _ _ h, form_short hl200 h⟩
  have HSL : Hid (s'.toList = s'.data.toList) := Lib.hid (Lib.toList_data s')
  obtain ⟨l, hl⟩ : ∃ l, s'.data.toList = l := ⟨_, rfl⟩
  obtain ⟨m, hm⟩ : ∃ l, t'.data.toList = l := ⟨_, rfl⟩
  rw [hl] at HT HR HI HS HF HSL
  rw [hm] at HR2 HS
  obtain ⟨qi, hqi⟩ : ∃ q, decide (textP l = some l) = q := ⟨_, rfl⟩
  obtain ⟨qs, hqs⟩ : ∃ q, sameP l m = q := ⟨_, rfl⟩
  rw [hqi] at HI
  rw [hqs] at HS
  have HQI : Hid (decide (textP l = some l) = qi) := hqi
  have HQS : Hid (((textP l).isSome && (textP m).isSome && decide (textP l = textP m)) = qs) := hqs
  clear hqi hqs hl hm hS hT hl200 HC1 HC2 HB hs' ht'
  generalize textP l = r at *
  generalize textP m = u at *
  go_wp2_with fail
  refine (HT.out _ hb1).mono ?_
  rintro e w2 ⟨rfl, hb2⟩
  have B2 : Below w.heap.size w w2 := hb1.trans (hb2.mono hb1.size)
  clear HT hb1 hb2
  go_wp2_with fail
  refine (HR.out _).mono ?_
  rintro e w3 ⟨rfl, hb3⟩
  have B3 : Below w.heap.size w w3 := B2.trans (hb3.mono B2.size)
  clear HR B2 hb3
  go_wp2_with fail
  refine (HR2.out _).mono ?_
  rintro e w4 ⟨rfl, hb4⟩
  have B4 : Below w.heap.size w w4 := B3.trans (hb4.mono B3.size)
  have HI4 := Lib.hid (HI.out w4 B4)
  clear HR2 B3 hb4 HI
  cases r with
  | none =>
    have eqi : qi = false := by rw [← HQI.out]; simp
    have eqs : qs = false := by rw [← HQS.out]; simp
    subst eqi eqs
    clear HQI HQS
    go_wp2_with fail
    refine HI4.out.mono ?_
    rintro e w5 ⟨rfl, hb5⟩
    have B5 : Below w.heap.size w w5 := B4.trans (hb5.mono B4.size)
    have HS5 := Lib.hid (HS.out w5 B5)
    clear HI4 B4 hb5 HS
    go_wp2_with fail
    refine HS5.out.mono ?_
    rintro e w6 ⟨rfl, hb6⟩
    have B6 : Below w.heap.size w w6 := B5.trans (hb6.mono B5.size)
    have ht0 : Hid (∀ w', Below w.heap.size w w' → Calls Tryd.prog 16 #[.string ⟨#[]⟩] w' (TextRes w' (some []))) := Lib.hid fun w' hb => text_any ⟨#[]⟩ w' (short_of (by show 0 ≤ 1000; omega)) (HES.out _ hb).1 (HES.out _ hb).2
    have HT6 := Lib.hid (ht0.out w6 B6)
    clear HS5 B5 hb6 ht0
    go_wp2_with fail
    refine HT6.out.mono ?_
    rintro e w7 ⟨rfl, hb7⟩
    have B7 : Below w.heap.size w w7 := B6.trans (hb7.mono B6.size)
    clear B6 hb7 HT6
    go_wp2_with fail
    go_ret
    exact ⟨rfl, B7⟩
  | some A =>
    obtain ⟨F1, F2⟩ := HF.out A rfl
    have HT5 : Hid (∀ w', Below w.heap.size w w' → Calls Tryd.prog 16 #[.string ⟨A.toArray⟩] w' (TextRes w' (some A))) := Lib.hid fun w' hb => by
      have := text_any ⟨A.toArray⟩ w' F2 (HES.out _ hb).1 (HES.out _ hb).2
      rwa [bs_data', F1] at this
    have HI5 : Hid (∀ w', Below w.heap.size w w' → Calls Tryd.prog 18 #[.string ⟨A.toArray⟩] w' fun e w'' => e = .returned (.bool true) ∧ Below w'.heap.size w' w'') := Lib.hid fun w' hb => by
      have := is_any ⟨A.toArray⟩ w' F2 (HES.out _ hb).1 (HES.out _ hb).2
      rwa [bs_data', F1, decide_eq_true rfl] at this
    have e1 : (A == s'.toList) = qi := by
      rw [HSL.out, ← HQI.out]
      by_cases e : A = l <;> simp [e]
    have e1' : (A == s'.toList) = qi := e1
    have HAA : (A == A) = true := by simp
    clear F1 F2 HF HQI HSL
    cases u with
    | none =>
      have eqs : qs = false := by rw [← HQS.out]; simp
      subst eqs
      clear HQS
      cases qi <;> (
        go_wp2_with fail
        refine HI4.out.mono ?_
        rintro e w5 ⟨rfl, hb5⟩
        have B5 : Below w.heap.size w w5 := B4.trans (hb5.mono B4.size)
        have HS5 := Lib.hid (HS.out w5 B5)
        clear HI4 B4 hb5 HS
        go_wp2_with fail
        refine HS5.out.mono ?_
        rintro e w6 ⟨rfl, hb6⟩
        have B6 : Below w.heap.size w w6 := B5.trans (hb6.mono B5.size)
        have HT6 := Lib.hid (HT5.out w6 B6)
        clear HS5 B5 hb6 HT5
        go_wp2_with fail
        refine HT6.out.mono ?_
        rintro e w7 ⟨rfl, hb7⟩
        have B7 : Below w.heap.size w w7 := B6.trans (hb7.mono B6.size)
        have HI7 := Lib.hid (HI5.out w7 B7)
        clear B6 hb7 HT6 HI5
        go_wp2_with fail
        refine HI7.out.mono ?_
        rintro e w8 ⟨rfl, hb8⟩
        have B8 : Below w.heap.size w w8 := B7.trans (hb8.mono B7.size)
        clear B7 hb8 HI7
        go_wp2_with fail
        go_ret
        exact ⟨rfl, B8⟩)
    | some C =>
      have e2 : (A == C) = qs := by
        rw [← HQS.out]
        by_cases e : A = C <;> simp [e]
      clear HQS
      cases qi <;> cases qs <;> (
        go_wp2_with fail
        refine HI4.out.mono ?_
        rintro e w5 ⟨rfl, hb5⟩
        have B5 : Below w.heap.size w w5 := B4.trans (hb5.mono B4.size)
        have HS5 := Lib.hid (HS.out w5 B5)
        clear HI4 B4 hb5 HS
        go_wp2_with fail
        refine HS5.out.mono ?_
        rintro e w6 ⟨rfl, hb6⟩
        have B6 : Below w.heap.size w w6 := B5.trans (hb6.mono B5.size)
        have HT6 := Lib.hid (HT5.out w6 B6)
        clear HS5 B5 hb6 HT5
        go_wp2_with fail
        refine HT6.out.mono ?_
        rintro e w7 ⟨rfl, hb7⟩
        have B7 : Below w.heap.size w w7 := B6.trans (hb7.mono B6.size)
        have HI7 := Lib.hid (HI5.out w7 B7)
        clear B6 hb7 HT6 HI5
        go_wp2_with fail
        refine HI7.out.mono ?_
        rintro e w8 ⟨rfl, hb8⟩
        have B8 : Below w.heap.size w w8 := B7.trans (hb8.mono B7.size)
        clear B7 hb8 HI7
        go_wp2_with fail
        go_ret
        exact ⟨rfl, B8⟩)
end Go.Proofs.YtmglnpnkkidnnaaDoor
