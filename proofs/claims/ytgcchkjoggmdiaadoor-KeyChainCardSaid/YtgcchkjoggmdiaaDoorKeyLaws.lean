/- The walks of the laws KeyBetween, KeyForms, KeyOrder. -/
import Derived.Test.YtgcchkjoggmdiaaDoorMKey
import Derived.Test.YtgcchkjoggmdiaaDoorNormLaw2
namespace Go.Proofs.YtgcchkjoggmdiaaDoor
set_option linter.unusedVariables false
open Go.RowKit
open Go.Lib (compareBytes)
theorem btw_facts (a b c : ByteArray) (h : (⟨(btwP a.data.toList b.data.toList).toArray⟩ : ByteArray) = c) :
    c.size ≤ a.size ∧ ((Op.bytesLess a.toList b.toList = false ∧ c = a) ∨
      (Op.bytesLess a.toList b.toList = true ∧ Op.bytesLess c.toList b.toList = true ∧ Op.bytesLess c.toList a.toList = false ∧ (Op.bytesLess a.toList c.toList = true ∨ (Op.bytesLess a.toList c.toList = false ∧ (a.toList == c.toList) = true)))) := by
  subst h
  by_cases hlt : a.data.toList < b.data.toList
  · have e : btwP a.data.toList b.data.toList = btw a.data.toList b.data.toList := by unfold btwP; rw [if_pos hlt]
    have e2 : (⟨(btwP a.data.toList b.data.toList).toArray⟩ : ByteArray).data.toList = btw a.data.toList b.data.toList := e
    refine ⟨?_, .inr ⟨by rw [less_eq]; exact decide_eq_true hlt, ?_, ?_, ?_⟩⟩
    · have := btw_len a.data.toList b.data.toList
      rw [size_toList] at this
      rw [← size_toList, e2]; exact this
    · rw [less_eq, e2]; exact decide_eq_true (btw_lt _ _ hlt)
    · rw [less_eq, e2]; exact decide_eq_false (btw_le _ _)
    · have h2 := btw_le a.data.toList b.data.toList
      by_cases h3 : a.data.toList < btw a.data.toList b.data.toList
      · left; rw [less_eq, e2]; exact decide_eq_true h3
      · right
        refine ⟨by rw [less_eq, e2]; exact decide_eq_false h3, ?_⟩
        rw [beq_iff_eq, Lib.toList_data, Lib.toList_data, e2]
        exact List.le_antisymm (List.not_lt.1 h2) (List.not_lt.1 h3)
  · have e : (⟨(btwP a.data.toList b.data.toList).toArray⟩ : ByteArray) = a := by rw [btwP_no hlt]
    rw [e]
    exact ⟨Nat.le_refl _, .inl ⟨by rw [less_eq]; exact decide_eq_false hlt, rfl⟩⟩
set_option maxHeartbeats 4000000 in
set_option maxRecDepth 100000 in
theorem keyBetween_walk (w : World) (hE : ErrAt w) (hSp : SpAt w) (a : ByteArray) (ha : a.size ≤ maxLen) (b : ByteArray) (hb : b.size ≤ maxLen) :
    Calls Tryd.prog 4 #[.string a, .string b] w fun e w' => e = .returned (.bool true) ∧ Below w.heap.size w w' := by
  have HB := Lib.hid (kbegun_any w hE hSp)
  have HC1 : Hid (∀ w, Calls Tryd.prog 10 #[.string a, .int .i64 60] w fun e w' => ∃ t : ByteArray, e = .returned (.string t) ∧ t.size ≤ 60 ∧ w = w') := Lib.hid (cut_any a 60 (by omega) ha)
  have HC2 : Hid (∀ w, Calls Tryd.prog 10 #[.string b, .int .i64 60] w fun e w' => ∃ t : ByteArray, e = .returned (.string t) ∧ t.size ≤ 60 ∧ w = w') := Lib.hid (cut_any b 60 (by omega) hb)
  clear hE hSp ha hb
  go_enter Tryd.func4, Tryd.ntmps4
  go_wp2_with fail
  refine HB.out.mono ?_
  rintro e w1 ⟨rfl, hb1⟩
  have HB1 := Lib.hid hb1
  clear hb1 HB
  go_wp2_with fail
  refine (HC1.out _).mono ?_
  rintro e w' ⟨s, rfl, hs, rfl⟩
  go_wp2_with fail
  refine (HC2.out _).mono ?_
  rintro e w' ⟨t, rfl, ht, rfl⟩
  obtain ⟨c, hc⟩ : ∃ c : ByteArray, (⟨(btwP s.data.toList t.data.toList).toArray⟩ : ByteArray) = c := ⟨_, rfl⟩
  have HK : Hid (∀ w, Calls Tryd.prog 11 #[.string s, .string t] w fun e w' => e = .returned (.string c) ∧ Below w.heap.size w w') := Lib.hid fun w => by
    have := kbtw_any s t (by unfold maxLen; omega) (by unfold maxLen; omega) w
    rwa [hc] at this
  have HR : Hid (∀ w, Calls Tryd.prog 12 #[.string s, .string t] w fun e w' => e = .returned (.string c) ∧ Below w.heap.size w w') := Lib.hid fun w => by
    have := krbtw_any s t (by unfold maxLen; omega) (by unfold maxLen; omega) w
    rwa [hc] at this
  obtain ⟨hl, hcase⟩ := btw_facts s t c hc
  have hld : decide (s.size < c.size) = false := decide_eq_false (by omega)
  clear hc HC1 HC2
  go_wp2_with fail
  refine (HK.out _).mono ?_
  rintro e w2 ⟨rfl, hb2⟩
  have HB2 := Lib.hid (HB1.out.trans (hb2.mono HB1.out.size))
  clear hb2 HB1
  go_wp2_with fail
  refine (HR.out _).mono ?_
  rintro e w3 ⟨rfl, hb3⟩
  have HB3 := Lib.hid (HB2.out.trans (hb3.mono HB2.out.size))
  clear hb3 HB2 HK HR
  rcases hcase with ⟨h1, rfl⟩ | ⟨h1, h2, h3, h4 | ⟨h4, h5⟩⟩
  all_goals
    go_wp2_with fail
    go_ret
    exact ⟨rfl, HB3.out⟩
theorem key_cases (l : List UInt8) (hl : l.length ≤ 100) : keyP l = none ∨ ∃ A, keyP l = some A ∧ keyP A = some A ∧ A.length ≤ 4096 := by
  unfold keyP
  by_cases h : l = [] ∨ 4096 < l.length
  · left; rw [if_pos h]
  · rw [if_neg h]
    cases ht : textP l with
    | none => left; rfl
    | some A =>
      right
      refine ⟨A, rfl, ?_⟩
      obtain ⟨xs, h1, h2, h3, h4, h5, h6⟩ := text_facts (l := l) (by omega) ht
      rw [if_neg, text_idem _ _ ht]
      · exact ⟨rfl, by omega⟩
      · rintro (e | e)
        · subst e
          refine h (.inl ?_)
          rw [readP_nil] at h3
          have e1 := congrArg List.length (Option.some.inj h3)
          rw [chars_len] at e1
          cases xs with
          | nil => have := write_read l [] h1; simpa [writeP] using this.symm
          | cons x xs =>
            rw [List.flatMap_cons, List.length_append, List.length_nil] at e1
            have := List.length_pos_iff.2 (apart_len x).2
            omega
        · omega
theorem cmp_self_str (A : ByteArray) : compareBytes A.data.toList A.data.toList = 0 := cmpB_self _
set_option maxHeartbeats 4000000 in
set_option maxRecDepth 100000 in
theorem keyForms_walk (w : World) (hE : ErrAt w) (hSp : SpAt w) (s : ByteArray) (hs : s.size ≤ maxLen) :
    Calls Tryd.prog 5 #[.string s] w fun e w' => e = .returned (.bool true) ∧ Below w.heap.size w w' := by
  have HES : Hid (∀ w', Below w.heap.size w w' → ErrAt w' ∧ SpAt w') := Lib.hid fun w' hb => ⟨hE.below hb, hSp.below hb hSp.1⟩
  have HB := Lib.hid (kbegun_any w hE hSp)
  have HC1 : Hid (∀ w, Calls Tryd.prog 10 #[.string s, .int .i64 100] w fun e w' => ∃ t : ByteArray, e = .returned (.string t) ∧ t.size ≤ 100 ∧ w = w') := Lib.hid (cut_any s 100 (by omega) hs)
  clear hE hSp hs
  go_enter Tryd.func5, Tryd.ntmps5
  go_wp2_with fail
  refine HB.out.mono ?_
  rintro e w1 ⟨rfl, hb1⟩
  have HB1 := Lib.hid hb1
  clear hb1 HB
  go_wp2_with fail
  refine (HC1.out _).mono ?_
  rintro e w' ⟨t, rfl, ht, rfl⟩
  have htm : t.size ≤ maxLen := by unfold maxLen; omega
  rcases key_cases t.data.toList (by rw [size_toList]; exact ht) with hk | ⟨A, hk, hk2, hA⟩
  · have HM := Lib.hid (make_no t htm w1 (HES.out _ HB1.out).1 (HES.out _ HB1.out).2 hk)
    clear hk HES htm
    go_wp2_with fail
    refine HM.out.mono ?_
    rintro e w2 ⟨rfl, hb2⟩
    have HB2 := Lib.hid (HB1.out.trans (hb2.mono HB1.out.size))
    clear hb2 HB1 HM
    go_wp2_with fail
    go_ret
    exact ⟨rfl, HB2.out.alloc HB2.out.size _⟩
  · have HM := Lib.hid (make_yes t htm w1 (HES.out _ HB1.out).1 (HES.out _ HB1.out).2 A hk)
    have HM2 : Hid (∀ w', Below w.heap.size w w' → Calls Tryd.prog 13 #[.string ⟨A.toArray⟩] w' fun e w'' => e = .returned (.tuple #[.agg #[.string ⟨A.toArray⟩, .string ⟨A.toArray⟩], .int .i64 0]) ∧ Below w'.heap.size w' w'') := Lib.hid fun w' hb =>
      make_yes ⟨A.toArray⟩ (by rw [← size_toList]; show A.length ≤ maxLen; unfold maxLen; omega) w' (HES.out _ hb).1 (HES.out _ hb).2 A hk2
    obtain ⟨h, hh⟩ : ∃ h, hashL A = h := ⟨_, rfl⟩
    have HH : Hid (∀ w, Calls Tryd.prog 14 #[.string ⟨A.toArray⟩] w fun e w' => e = .returned (.int .u64 h) ∧ w' = w) := Lib.hid fun w => by
      refine (khash_any ⟨A.toArray⟩ (by rw [← size_toList]; show A.length ≤ maxLen; unfold maxLen; omega) w).mono ?_
      rintro e w' ⟨rfl, rfl⟩; exact ⟨by rw [← hh], rfl⟩
    have HCm : Hid (∀ w, Calls Tryd.prog 9 #[.string ⟨A.toArray⟩, .string ⟨A.toArray⟩] w fun e w' => e = .returned (.int .i64 0) ∧ w' = w) := Lib.hid fun w => by
      refine (kcmp_any ⟨A.toArray⟩ ⟨A.toArray⟩ w).mono ?_
      rintro e w' ⟨rfl, rfl⟩; exact ⟨by rw [cmp_self_str], rfl⟩
    obtain ⟨c, hc⟩ : ∃ c : ByteArray, (⟨A.toArray⟩ : ByteArray) = c := ⟨_, rfl⟩
    rw [hc] at HM HM2 HH HCm
    clear hk hk2 hA HES htm hh hc
    go_wp2_with fail
    refine HM.out.mono ?_
    rintro e w2 ⟨rfl, hb2⟩
    have hal : Below w.heap.size w (w2.alloc (.cells #[.string c, .string t] 32)) := (HB1.out.trans (hb2.mono HB1.out.size)).alloc (Nat.le_trans HB1.out.size hb2.size) _
    have HM3 := Lib.hid (HM2.out _ hal)
    have HAL := Lib.hid hal
    clear hb2 HB1 HM HM2 hal
    go_wp2_with fail
    refine HM3.out.mono ?_
    rintro e w3 ⟨rfl, hb3⟩
    have hb3' : Below (w2.heap.size + 1) (w2.alloc (.cells #[.string c, .string t] 32)) w3 := hb3.mono (by simp)
    have HB3 := Lib.hid (HAL.out.trans (hb3.mono HAL.out.size))
    obtain ⟨⟨c0, c1⟩, ⟨f0, f1⟩, hz⟩ := blk2 hb3'
    clear hb3 hb3' HM3 HAL
    go_wp2_with fail
    go_quiet ((first | (go_at_call 14; exact Calls.quiet_of_same (HH.out _)) | (go_at_call 9; exact Calls.quiet_of_same (HCm.out _))))
    go_wp2_with fail
    go_ret
    exact ⟨rfl, (HB3.out.alloc HB3.out.size _).trans ⟨rfl, rfl, rfl, Nat.le_refl _, fun _ _ => rfl⟩⟩
end Go.Proofs.YtgcchkjoggmdiaaDoor
