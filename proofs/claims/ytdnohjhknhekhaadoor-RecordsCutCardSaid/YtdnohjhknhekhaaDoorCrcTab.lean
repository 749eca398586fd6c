/- The table of crc: what its sixteen words are; a byte taken in as two halves. -/
import Derived.Test.YtdnohjhknhekhaaDoorCrcMath
import Derived.Below
namespace Go.Proofs.YtdnohjhknhekhaaDoor
open Go.RowKit
set_option linter.unusedVariables false
def cs4 (c : Nat) : Nat := cs1 (cs1 (cs1 (cs1 c)))
theorem cs4_lt {c : Nat} (h : c < 2 ^ 32) : cs4 c < 2 ^ 32 := cs1_lt (cs1_lt (cs1_lt (cs1_lt h)))
theorem cs4_xor (v y : Nat) : cs4 (v ^^^ 16 * y) = cs4 v ^^^ y := by
  unfold cs4
  rw [show 16 * y = 2 * (8 * y) by omega, cs1_xor, show 8 * y = 2 * (4 * y) by omega, cs1_xor, show 4 * y = 2 * (2 * y) by omega, cs1_xor, cs1_xor]
theorem split16 (r : Nat) : r % 16 ^^^ 16 * (r / 16) = r := by
  apply Nat.eq_of_testBit_eq
  intro i
  rw [Nat.testBit_xor, show (16 : Nat) = 2 ^ 4 from rfl, Nat.testBit_mod_two_pow, Nat.testBit_two_pow_mul, Nat.testBit_div_two_pow]
  by_cases h : i < 4
  · have h2 : ¬ 4 ≤ i := by omega
    simp [h, h2]
  · have h2 : 4 ≤ i := by omega
    simp [h, h2, Nat.sub_add_cancel h2]
/-- four steps: the table's word for what leaves, and what stays. -/
theorem cs4_tab (r : Nat) : cs4 r = r / 16 ^^^ cs4 (r % 16) := by
  conv => lhs; rw [← split16 r]
  rw [cs4_xor, Nat.xor_comm]
theorem cs8_two (c : Nat) : cs8 c = cs4 (cs4 c) := rfl
/-- the table, as the program's start lays it -/
def TabAt (W : World) : Prop := 0 < W.heap.size ∧ ∀ i : Nat, i < 16 → W.cell? ⟨0, i, none⟩ = some (.int .u32 (cs4 i : Int))
theorem TabAt.below {W W' : World} (h : TabAt W) (hb : Below W.heap.size W W') : TabAt W' := ⟨Nat.lt_of_lt_of_le h.1 hb.size, fun i hi => by rw [hb.cell h.1]; exact h.2 i hi⟩
end Go.Proofs.YtdnohjhknhekhaaDoor
