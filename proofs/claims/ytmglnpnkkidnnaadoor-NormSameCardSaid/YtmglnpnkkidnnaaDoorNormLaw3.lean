/- The walks of the laws NormSame and NormJoin. -/
import Derived.Test.YtmglnpnkkidnnaaDoorNormLaw2
namespace Go.Proofs.YtmglnpnkkidnnaaDoor
set_option linter.unusedVariables false
open Go.RowKit
theorem sameP_symm (l m : List UInt8) : sameP m l = sameP l m := by
  unfold sameP
  rw [Bool.and_comm (textP m).isSome, show decide (textP m = textP l) = decide (textP l = textP m) from decide_eq_decide.2 ⟨Eq.symm, Eq.symm⟩]
theorem sameP_self (l : List UInt8) : sameP l l = (textP l).isSome := by unfold sameP; simp
theorem sameP_trans (l m k : List UInt8) : (!sameP l m || !sameP m k || sameP l k) = true := by
  unfold sameP
  cases textP l with
  | none => simp
  | some A =>
    cases textP m with
    | none => simp
    | some B =>
      cases textP k with
      | none => simp
      | some C =>
        by_cases h1 : A = B <;> by_cases h2 : B = C <;> simp_all
set_option maxHeartbeats 4000000 in
set_option maxRecDepth 100000 in
theorem normSame_walk (w : World) (hE : ErrAt w) (hSp : SpAt w) (s : ByteArray) (hs : s.size ≤ maxLen) (t : ByteArray) (ht : t.size ≤ maxLen) (u : ByteArray) (hu : u.size ≤ maxLen) :
    Calls Tryd.prog 9 #[.string s, .string t, .string u] w fun e w' => e = .returned (.bool true) ∧ Below w.heap.size w w' := by
  have HES : Hid (∀ w', Below w.heap.size w w' → ErrAt w' ∧ SpAt w') := Lib.hid fun w' hb => ⟨hE.below hb, hSp.below hb hSp.1⟩
  have HB := Lib.hid (nbegun_any w hE hSp)
  have HC1 : Hid (∀ w, Calls Tryd.prog 15 #[.string s, .int .i64 60] w fun e w' => ∃ t : ByteArray, e = .returned (.string t) ∧ t.size ≤ 60 ∧ w = w') := Lib.hid (cut_any s 60 (by omega) hs)
  have HC2 : Hid (∀ w, Calls Tryd.prog 15 #[.string t, .int .i64 60] w fun e w' => ∃ t : ByteArray, e = .returned (.string t) ∧ t.size ≤ 60 ∧ w = w') := Lib.hid (cut_any t 60 (by omega) ht)
  have HC3 : Hid (∀ w, Calls Tryd.prog 15 #[.string u, .int .i64 60] w fun e w' => ∃ t : ByteArray, e = .returned (.string t) ∧ t.size ≤ 60 ∧ w = w') := Lib.hid (cut_any u 60 (by omega) hu)
  clear hE hSp hs ht hu
  go_enter Tryd.func9, Tryd.ntmps9
  go_wp2_with fail
  refine HB.out.mono ?_
  rintro e w1 ⟨rfl, hb1⟩
  go_wp2_with fail
  refine (HC1.out _).mono ?_
  rintro e w' ⟨s', rfl, hs', rfl⟩
  go_wp2_with fail
  refine (HC2.out _).mono ?_
  rintro e w' ⟨t', rfl, ht', rfl⟩
  go_wp2_with fail
  refine (HC3.out _).mono ?_
  rintro e w' ⟨u', rfl, hu', rfl⟩
  have hS : Short' s'.data.toList := short_of (by rw [size_toList]; omega)
  have hT : Short' t'.data.toList := short_of (by rw [size_toList]; omega)
  have hU : Short' u'.data.toList := short_of (by rw [size_toList]; omega)
  obtain ⟨q1, e1⟩ : ∃ q, sameP s'.data.toList t'.data.toList = q := ⟨_, rfl⟩
  obtain ⟨q2, e2⟩ : ∃ q, sameP t'.data.toList u'.data.toList = q := ⟨_, rfl⟩
  obtain ⟨q3, e3⟩ : ∃ q, sameP s'.data.toList u'.data.toList = q := ⟨_, rfl⟩
  obtain ⟨q0, e0⟩ : ∃ q, (textP s'.data.toList).isSome = q := ⟨_, rfl⟩
  have htr := sameP_trans s'.data.toList t'.data.toList u'.data.toList
  rw [e1, e2, e3] at htr
  have HS1 : Hid (∀ w', Below w.heap.size w w' → Calls Tryd.prog 19 #[.string s', .string t'] w' fun e w'' => e = .returned (.bool q1) ∧ Below w'.heap.size w' w'') := Lib.hid fun w' hb => e1 ▸ same_any s' t' w' hS hT (HES.out _ hb).1 (HES.out _ hb).2
  have HS2 : Hid (∀ w', Below w.heap.size w w' → Calls Tryd.prog 19 #[.string t', .string u'] w' fun e w'' => e = .returned (.bool q2) ∧ Below w'.heap.size w' w'') := Lib.hid fun w' hb => e2 ▸ same_any t' u' w' hT hU (HES.out _ hb).1 (HES.out _ hb).2
  have HS3 : Hid (∀ w', Below w.heap.size w w' → Calls Tryd.prog 19 #[.string s', .string u'] w' fun e w'' => e = .returned (.bool q3) ∧ Below w'.heap.size w' w'') := Lib.hid fun w' hb => e3 ▸ same_any s' u' w' hS hU (HES.out _ hb).1 (HES.out _ hb).2
  have HS4 : Hid (∀ w', Below w.heap.size w w' → Calls Tryd.prog 19 #[.string t', .string s'] w' fun e w'' => e = .returned (.bool q1) ∧ Below w'.heap.size w' w'') := Lib.hid fun w' hb => by
    have := same_any t' s' w' hT hS (HES.out _ hb).1 (HES.out _ hb).2
    rwa [sameP_symm, e1] at this
  have HS5 : Hid (∀ w', Below w.heap.size w w' → Calls Tryd.prog 19 #[.string s', .string s'] w' fun e w'' => e = .returned (.bool q0) ∧ Below w'.heap.size w' w'') := Lib.hid fun w' hb => by
    have := same_any s' s' w' hS hS (HES.out _ hb).1 (HES.out _ hb).2
    rwa [sameP_self, e0] at this
  have HR : Hid (∀ w', Calls Tryd.prog 17 #[.string s'] w' fun e w'' => ∃ x, e = .returned (.tuple #[.string x, .bool q0]) ∧ Below w'.heap.size w' w'') := Lib.hid fun w' => (rtext_any s' w' hS).mono fun e w'' ⟨h1, h2⟩ => ⟨_, e0 ▸ h1, h2⟩
  have HTR : Hid ((!q1 || !q2 || q3) = true) := htr
  clear e0 e1 e2 e3 hS hT hU hs' ht' hu' HC1 HC2 HC3 HB htr HES
  go_wp2_with fail
  refine (HS1.out _ hb1).mono ?_
  rintro e w2 ⟨rfl, hb2⟩
  have B2 : Below w.heap.size w w2 := hb1.trans (hb2.mono hb1.size)
  clear HS1 hb1 hb2
  go_wp2_with fail
  refine (HS2.out _ B2).mono ?_
  rintro e w3 ⟨rfl, hb3⟩
  have B3 : Below w.heap.size w w3 := B2.trans (hb3.mono B2.size)
  clear HS2 B2 hb3
  go_wp2_with fail
  refine (HS3.out _ B3).mono ?_
  rintro e w4 ⟨rfl, hb4⟩
  have B4 : Below w.heap.size w w4 := B3.trans (hb4.mono B3.size)
  clear HS3 B3 hb4
  go_wp2_with fail
  refine (HR.out _).mono ?_
  rintro e w5 ⟨x, rfl, hb5⟩
  have B5 : Below w.heap.size w w5 := B4.trans (hb5.mono B4.size)
  clear HR B4 hb5
  cases q1 <;> cases q2 <;> cases q3 <;> first | (exact absurd HTR.out (by decide)) | (
    clear HTR
    go_wp2_with fail
    refine (HS4.out _ B5).mono ?_
    rintro e w6 ⟨rfl, hb6⟩
    have B6 : Below w.heap.size w w6 := B5.trans (hb6.mono B5.size)
    have HS6 := Lib.hid (HS5.out w6 B6)
    clear HS4 HS5 B5 hb6
    go_wp2_with fail
    refine HS6.out.mono ?_
    rintro e w7 ⟨rfl, hb7⟩
    have B7 : Below w.heap.size w w7 := B6.trans (hb7.mono B6.size)
    clear HS6 B6 hb7
    cases q0 <;> (
      go_wp2_with fail
      go_ret
      exact ⟨rfl, B7⟩))
end Go.Proofs.YtmglnpnkkidnnaaDoor
