/- The walks of the laws NormText and NormSame. -/
import Derived.Test.YtgcchkjoggmdiaaDoorNormLaw1
namespace Go.Proofs.YtgcchkjoggmdiaaDoor
set_option linter.unusedVariables false
open Go.RowKit
theorem bs_data' (l : List UInt8) : (⟨l.toArray⟩ : ByteArray).data.toList = l := rfl
theorem of_bytes (s : ByteArray) : s = ⟨s.data.toList.toArray⟩ := rfl
/-- What a form is long. -/
theorem write_len (L : List Int) : ∀ bs, writeP L = some bs → bs.length = (L.map fun c => (encP c).length).sum := by
  induction L with
  | nil => intro bs h; simp [writeP] at h; simp [h]
  | cons c L ih =>
    intro bs h
    unfold writeP at h
    split at h
    · obtain ⟨b', e, rfl⟩ := Option.map_eq_some_iff.1 h
      rw [List.length_append, ih b' e]; simp
    · cases h
theorem sum_le (L : List Int) : (L.map fun c => (encP c).length).sum ≤ 4 * L.length := by
  induction L with
  | nil => simp
  | cons c L ih => simp only [List.map_cons, List.sum_cons, List.length_cons]; have := enc_le c; omega
/-- A form's form can be asked. -/
theorem text_facts {l A : List UInt8} (hl : l.length ≤ 200) (h : textP l = some A) : ∃ xs, readP l = some xs ∧ writeP (charsP xs) = some A ∧ readP A = some (charsP xs) ∧ xs.length ≤ l.length ∧ (charsP xs).length ≤ 10 * xs.length ∧ A.length ≤ 40 * xs.length := by
  cases hr : readP l with
  | none => rw [text_none l hr] at h; cases h
  | some xs =>
    obtain ⟨bs, e1, e2, e3⟩ := text_some l xs hr
    rw [h] at e2; cases e2
    have h1 := read_len l xs hr
    have h2 := flat_len xs
    have h3 := write_len _ _ e1
    have h4 := sum_le (charsP xs)
    have h5 := chars_len xs
    exact ⟨xs, rfl, e1, e3, h1, by omega, by omega⟩
theorem form_short {l A : List UInt8} (hl : l.length ≤ 200) (h : textP l = some A) : Short' A := by
  obtain ⟨xs, h1, h2, h3, h4, h5, h6⟩ := text_facts hl h
  refine ⟨by omega, fun ys hy => ?_⟩
  rw [h3] at hy; cases hy
  rw [flat_self _ (chars_end xs)]; omega
end Go.Proofs.YtgcchkjoggmdiaaDoor
