/- Texts ordered by bytes: what the walk spells, as an order of byte arrays. -/
import Derived.Test.YtpaoabdjbdlalaaBits
import Derived.Sort.Walk0
namespace Go.Proofs.Ytpaoabdjbdlalaa
set_option linter.unusedVariables false
open Go.RowKit
theorem less_eq (a b : ByteArray) : Op.bytesLess a.toList b.toList = decide (a.data.toList < b.data.toList) := by rw [bytesLess_eq, Lib.toList_data, Lib.toList_data]
def bl (a b : ByteArray) : Prop := a.data.toList < b.data.toList
theorem bl_trans {a b c : ByteArray} (h : bl a b) (k : bl b c) : bl a c := List.lt_trans h k
theorem bl_tri (a b : ByteArray) : bl a b ∨ a = b ∨ bl b a := by
  by_cases h : a.data.toList < b.data.toList
  · exact .inl h
  · by_cases h2 : b.data.toList < a.data.toList
    · exact .inr (.inr h2)
    · refine .inr (.inl ?_)
      have := List.le_antisymm (List.not_lt.1 h2) (List.not_lt.1 h)
      exact ByteArray.ext (Array.toList_inj.1 this)
theorem bs_less (a b : ByteArray) (h : bl a b) : Op.bytesLess a.toList b.toList = true := by rw [less_eq]; exact decide_eq_true h
theorem bs_not (a b : ByteArray) (h : ¬ bl a b) : Op.bytesLess a.toList b.toList = false := by rw [less_eq]; exact decide_eq_false h
theorem bl_irr (a : ByteArray) : ¬ bl a a := List.lt_irrefl _
theorem bs_eq (a b : ByteArray) : (a.toList == b.toList) = decide (a = b) := by
  rw [Lib.toList_data, Lib.toList_data, Bool.eq_iff_iff, beq_iff_eq, decide_eq_true_eq]
  constructor
  · intro h; exact ByteArray.ext (Array.toList_inj.1 h)
  · rintro rfl; rfl
theorem bs_ne {a b : ByteArray} (h : a ≠ b) : (a.toList == b.toList) = false := by rw [bs_eq]; exact decide_eq_false h
theorem bs_refl (a : ByteArray) : (a.toList == a.toList) = true := by simp
instance (a b : ByteArray) : Decidable (bl a b) := inferInstanceAs (Decidable (a.data.toList < b.data.toList))
end Go.Proofs.Ytpaoabdjbdlalaa
