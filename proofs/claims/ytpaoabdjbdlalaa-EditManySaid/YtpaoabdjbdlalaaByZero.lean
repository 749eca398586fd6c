/- 'append([]byte(nil), make([]byte, n)...)'. -/
import Derived.Test.YtpaoabdjbdlalaaByt
import Derived.Lib.AppendZeros
namespace Go.Proofs.Ytpaoabdjbdlalaa
set_option linter.unusedVariables false
open Go.RowKit
theorem zero_list (n : Nat) : (Builtin.zeroCells (Value.int .u8 0).cells n).toList = List.replicate n (.int .u8 0) := by
  have e : (Value.int .u8 0).cells = #[.int .u8 0] := rfl
  rw [e]
  unfold Builtin.zeroCells
  simp only [Array.toList_map, Array.toList_range]
  have : ∀ i, (#[Value.int .u8 0] : Array Value)[i % (#[Value.int .u8 0] : Array Value).size]! = Value.int .u8 0 := fun i => by
    show (#[Value.int .u8 0] : Array Value)[i % 1]! = _
    rw [Nat.mod_one]; rfl
  simp only [this]
  rw [List.map_const', List.length_range]
  show List.replicate (n * 1) _ = _
  rw [Nat.mul_one]
theorem app_zeros {ty : Nat} (w : World) (n : Nat) (h0 : 0 < n) (hn : n ≤ 1000000000000) :
    ∃ v' w', (Builtin.append_ #[28, 3] ty #[.slice none 0 0, .int .i64 (n : Int)]).run Try.prog w = .ok v' w' ∧ OwnB w.heap.size w' v' (List.replicate n 0) ∧ Below w.heap.size w w' := by
  obtain ⟨f1, f2, f3⟩ := elem_u8
  obtain ⟨i0, hi, hz0, hz1, hz2⟩ := info_parts f2
  refine ⟨_, _, Lib.run_append_nil_zeros w 28 3 ty 5 i0 (.int .u8 0) .i64 .i64 f1 Try.underlying3 hi hz0 n h0 (by omega) (by omega) (by rw [hz2]; omega), ?_, ?_⟩
  · refine ⟨by rw [List.length_map, List.length_replicate]; omega, .inr ⟨w.heap.size, grownCap w n 0 5, _, ?_, Nat.le_refl _, heap_alloc_new .., ?_, ?_, ?_, ?_⟩⟩
    · rw [List.length_map, List.length_replicate]
    · rw [List.length_map, List.length_replicate]; exact grownCap_ge ..
    · exact grownCap_le_maxLen w n 0 _ (by unfold maxLen; omega)
    · rw [Array.size_append, size_zeroCells, size_zeroCells]
      have := grownCap_ge w n 0 5
      show n * 1 + (grownCap w n 0 5 - n) * 1 = _
      omega
    · rw [Array.toList_append, zero_list, List.length_map, List.length_replicate, Nat.mul_one, List.take_append_of_le_length (by rw [List.length_replicate]; exact Nat.le_refl _), List.take_of_length_le (by rw [List.length_replicate]; exact Nat.le_refl _), List.map_replicate]
      rfl
  · exact ((DrN.below ⟨1, rfl⟩ w.heap.size : Below w.heap.size w w.drew)).alloc (Nat.le_refl _) _
end Go.Proofs.Ytpaoabdjbdlalaa
