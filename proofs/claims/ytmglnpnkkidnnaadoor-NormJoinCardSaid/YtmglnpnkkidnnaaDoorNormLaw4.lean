/- The walk of the law NormJoin. -/
import Derived.Test.YtmglnpnkkidnnaaDoorNormLaw2
namespace Go.Proofs.YtmglnpnkkidnnaaDoor
set_option linter.unusedVariables false
open Go.RowKit
theorem perm_sum (L M : List Int) (h : L.Perm M) : (L.map fun c => (encP c).length).sum = (M.map fun c => (encP c).length).sum := by
  induction h with
  | nil => rfl
  | cons x _ ih => simp [ih]
  | swap x y l => simp; omega
  | trans _ _ h1 h2 => rw [h1, h2]
/-- The form of two texts put together. -/
theorem join_facts {l m A B : List UInt8} (hl : l.length ≤ 100) (hm : m.length ≤ 100) (h1 : textP l = some A) (h2 : textP m = some B) :
    ∃ C, textP (l ++ m) = some C ∧ textP (A ++ B) = some C ∧ C.length = A.length + B.length ∧ Short' (l ++ m) ∧ Short' (A ++ B) := by
  obtain ⟨xs, a1, a2, a3, a4, a5, a6⟩ := text_facts (by omega) h1
  obtain ⟨ys, b1, b2, b3, b4, b5, b6⟩ := text_facts (by omega) h2
  have r1 : readP (l ++ m) = some (xs ++ ys) := by rw [read_app _ _ _ a1, b1]; rfl
  have r2 : readP (A ++ B) = some (charsP xs ++ charsP ys) := by rw [read_app _ _ _ a3, b3]; rfl
  obtain ⟨C, c1, c2, c3⟩ := text_some _ _ r1
  refine ⟨C, c2, ?_, ?_, short_of (by rw [List.length_append]; omega), ⟨by rw [List.length_append]; omega, fun zs hz => ?_⟩⟩
  · unfold textP; rw [r2]; show writeP (charsP (charsP xs ++ charsP ys)) = _; rw [chars_app]; exact c1
  · have hp : (charsP (xs ++ ys)).Perm (charsP xs ++ charsP ys) := by
      rw [← chars_app]
      have := orderP_perm (cl := classP) ((charsP xs ++ charsP ys).flatMap apartP)
      rw [flat_self (charsP xs ++ charsP ys) fun x hx => by rcases List.mem_append.1 hx with h | h <;> exact chars_end _ x h] at this
      show (orderP classP ((charsP xs ++ charsP ys).flatMap apartP)).Perm _
      rw [flat_self (charsP xs ++ charsP ys) fun x hx => by rcases List.mem_append.1 hx with h | h <;> exact chars_end _ x h]
      exact this
    rw [write_len _ _ c1, write_len _ _ a2, write_len _ _ b2, perm_sum _ _ hp, List.map_append, List.sum_append]
  · rw [r2] at hz; cases hz
    rw [flat_self (charsP xs ++ charsP ys) fun x hx => by rcases List.mem_append.1 hx with h | h <;> exact chars_end _ x h, List.length_append]
    omega
set_option maxHeartbeats 4000000 in
set_option maxRecDepth 100000 in
theorem normJoin_walk (w : World) (hE : ErrAt w) (hSp : SpAt w) (s : ByteArray) (hs : s.size ≤ maxLen) (t : ByteArray) (ht : t.size ≤ maxLen) :
    Calls Tryd.prog 6 #[.string s, .string t] w fun e w' => e = .returned (.bool true) ∧ Below w.heap.size w w' := by
  have HES : Hid (∀ w', Below w.heap.size w w' → ErrAt w' ∧ SpAt w') := Lib.hid fun w' hb => ⟨hE.below hb, hSp.below hb hSp.1⟩
  have HB := Lib.hid (nbegun_any w hE hSp)
  have HC1 : Hid (∀ w, Calls Tryd.prog 15 #[.string s, .int .i64 80] w fun e w' => ∃ t : ByteArray, e = .returned (.string t) ∧ t.size ≤ 80 ∧ w = w') := Lib.hid (cut_any s 80 (by omega) hs)
  have HC2 : Hid (∀ w, Calls Tryd.prog 15 #[.string t, .int .i64 80] w fun e w' => ∃ t : ByteArray, e = .returned (.string t) ∧ t.size ≤ 80 ∧ w = w') := Lib.hid (cut_any t 80 (by omega) ht)
  clear hE hSp hs ht
  go_enter Tryd.func6, Tryd.ntmps6
  go_wp2_with fail
  refine HB.out.mono ?_
  rintro e w1 ⟨rfl, hb1⟩
  go_wp2_with fail
  refine (HC1.out _).mono ?_
  rintro e w' ⟨s', rfl, hs', rfl⟩
  go_wp2_with fail
  refine (HC2.out _).mono ?_
  rintro e w' ⟨t', rfl, ht', rfl⟩
  have hl100 : s'.data.toList.length ≤ 100 := by rw [size_toList]; omega
  have hm100 : t'.data.toList.length ≤ 100 := by rw [size_toList]; omega
  have hS : Short' s'.data.toList := short_of (by omega)
  have hT : Short' t'.data.toList := short_of (by omega)
  have HT1 : Hid (∀ w', Below w.heap.size w w' → Calls Tryd.prog 16 #[.string s'] w' (TextRes w' (textP s'.data.toList))) := Lib.hid fun w' hb => text_any s' w' hS (HES.out _ hb).1 (HES.out _ hb).2
  have HT2 : Hid (∀ w', Below w.heap.size w w' → Calls Tryd.prog 16 #[.string t'] w' (TextRes w' (textP t'.data.toList))) := Lib.hid fun w' hb => text_any t' w' hT (HES.out _ hb).1 (HES.out _ hb).2
  have HF : Hid (∀ A B, textP s'.data.toList = some A → textP t'.data.toList = some B → ∃ C, C.length = A.length + B.length ∧ A.length + B.length ≤ 8000 ∧ (∀ w', Below w.heap.size w w' → Calls Tryd.prog 16 #[.string (s' ++ t')] w' (TextRes w' (some C))) ∧ (∀ w', Below w.heap.size w w' → Calls Tryd.prog 16 #[.string ((⟨A.toArray⟩ : ByteArray) ++ ⟨B.toArray⟩)] w' (TextRes w' (some C)))) := Lib.hid fun A B h1 h2 => by
    obtain ⟨C, c1, c2, c3, c4, c5⟩ := join_facts hl100 hm100 h1 h2
    have d1 : (s' ++ t').data.toList = s'.data.toList ++ t'.data.toList := by simp
    have d2 : ((⟨A.toArray⟩ : ByteArray) ++ ⟨B.toArray⟩) = ⟨(A ++ B).toArray⟩ := str_app A B
    obtain ⟨_, _, _, _, k1, _, k2⟩ := text_facts (by omega) h1
    obtain ⟨_, _, _, _, k3, _, k4⟩ := text_facts (by omega) h2
    refine ⟨C, c3, by omega, fun w' hb => ?_, fun w' hb => ?_⟩
    · have := text_any (s' ++ t') w' (by rw [d1]; exact c4) (HES.out _ hb).1 (HES.out _ hb).2
      rwa [d1, c1] at this
    · rw [d2]
      have := text_any ⟨(A ++ B).toArray⟩ w' c5 (HES.out _ hb).1 (HES.out _ hb).2
      rwa [bs_data', c2] at this
  clear hl100 hm100 hS hT HC1 HC2 HB HES
  generalize textP s'.data.toList = r at *
  generalize textP t'.data.toList = u at *
  go_wp2_with fail
  refine (HT1.out _ hb1).mono ?_
  rintro e w2 ⟨rfl, hb2⟩
  have B2 : Below w.heap.size w w2 := hb1.trans (hb2.mono hb1.size)
  clear HT1 hb1 hb2
  go_wp2_with fail
  refine (HT2.out _ B2).mono ?_
  rintro e w3 ⟨rfl, hb3⟩
  have B3 : Below w.heap.size w w3 := B2.trans (hb3.mono B2.size)
  clear HT2 B2 hb3
  cases r with
  | none =>
    clear HF
    go_wp2_with fail
    go_ret
    exact ⟨rfl, B3⟩
  | some A =>
    cases u with
    | none =>
      clear HF
      go_wp2_with fail
      go_ret
      exact ⟨rfl, B3⟩
    | some B =>
      obtain ⟨C, hlen, h8000, f1, f2⟩ := HF.out A B rfl rfl
      have HF1 := Lib.hid (f1 w3 B3)
      have HF2 := Lib.hid f2
      have HLEN : Hid (C.length = A.length + B.length) := hlen
      have hst : s'.size + t'.size ≤ 160 := by omega
      have hst2 : ((s'.size : Int) + (t'.size : Int)) ≤ 9223372036854775807 := by omega
      have hAB : ¬ 9223372036854775807 < A.length + B.length := by omega
      have hCC : (C == C) = true := by simp
      have hLL : ((C.length : Int) == (A.length : Int) + (B.length : Int)) = true := by rw [beq_iff_eq]; omega
      have hLL2 : ((C.length : Int) = (A.length : Int) + (B.length : Int)) := by omega
      have HLL2 := Lib.hid hLL2
      have wLL : IntKind.i64.wrap ((A.length : Int) + (B.length : Int)) = (A.length : Int) + (B.length : Int) := by rw [IntKind.wrap_i64]; omega
      clear f1 f2 HF hlen hs' ht' hLL2
      go_wp2_with fail
      refine HF1.out.mono ?_
      rintro e w4 ⟨rfl, hb4⟩
      have B4 : Below w.heap.size w w4 := B3.trans (hb4.mono B3.size)
      have HF3 := Lib.hid (HF2.out w4 B4)
      clear HF1 HF2 B3 hb4
      go_wp2_with fail
      refine HF3.out.mono ?_
      rintro e w5 ⟨rfl, hb5⟩
      have B5 : Below w.heap.size w w5 := B4.trans (hb5.mono B4.size)
      clear HF3 B4 hb5
      go_wp2_with fail
      go_ret
      exact ⟨rfl, B5⟩
end Go.Proofs.YtmglnpnkkidnnaaDoor
