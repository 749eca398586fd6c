/- The walk of the law NormChars. -/
import Derived.Test.YtgcchkjoggmdiaaDoorMNormB
namespace Go.Proofs.YtgcchkjoggmdiaaDoor
set_option linter.unusedVariables false
open Go.RowKit
theorem nwf_bd {c : Int} (wf : (Lit.int .i64 c).wf = true) : -9223372036854775808 ≤ c ∧ c ≤ 9223372036854775807 := by
  simp [Lit.wf, IntKind.min, IntKind.max, IntKind.signed, IntKind.bits] at wf; omega
theorem rdI_take {w : World} {b off len cap : Nat} {xs : List Int} (h : RdI w (.slice (some ⟨b, off, none⟩) len cap) xs) (n : Nat) (hn : n ≤ len) : RdI w (.slice (some ⟨b, off, none⟩) n cap) (xs.take n) := by
  rcases h.cases with ⟨a, c, h1, h2⟩ | ⟨b', off', c, h1, h2, h3, h4, h5, h6⟩
  · simp only [Value.slice.injEq] at h1
    obtain ⟨-, h1, -⟩ := h1
    subst h1
    obtain rfl : n = 0 := by omega
    exact .inl ⟨_, cap, rfl, by simp⟩
  · simp only [Value.slice.injEq, Option.some.injEq, Addr.mk.injEq, and_true] at h1
    obtain ⟨⟨rfl, rfl⟩, rfl, rfl⟩ := h1
    rcases Nat.eq_zero_or_pos n with h0 | h0
    · subst h0; exact .inl ⟨_, cap, rfl, by simp⟩
    · have hl : (xs.take n).length = n := by rw [List.length_take]; omega
      refine .inr ⟨b, off, cap, by rw [List.length_map, hl], by rw [List.length_map, hl]; exact h0, by rw [List.length_map, hl]; omega, h4, h5, fun i hi => ?_⟩
      rw [List.length_map, hl] at hi
      rw [h6 i (by omega), getD_map (xs.take n) i (by omega)]
      congr 2
      rw [List.getD_eq_getElem?_getD, List.getD_eq_getElem?_getD, List.getElem?_take_of_lt hi]
theorem rdI_len {w : World} {a : Option Addr} {len cap : Nat} {xs : List Int} (h : RdI w (.slice a len cap) xs) : len = xs.length ∧ (0 < len → (∃ b off, a = some ⟨b, off, none⟩) ∧ len ≤ cap) := by
  rcases h.cases with ⟨a, c, h1, h2⟩ | ⟨b', off', c, h1, h2, h3, h4, h5, h6⟩
  · simp only [Value.slice.injEq] at h1; subst h2; exact ⟨h1.2.1, fun h => by omega⟩
  · simp only [Value.slice.injEq] at h1; exact ⟨h1.2.1, fun _ => ⟨⟨_, _, h1.1⟩, by omega⟩⟩
def NCut (zs : List Int) (w : World) (e : Ending) (w' : World) : Prop := ∃ v xs, e = .returned v ∧ RdI w v xs ∧ xs.length ≤ 40 ∧ (∀ x ∈ xs, x ∈ zs) ∧ w = w'
end Go.Proofs.YtgcchkjoggmdiaaDoor
