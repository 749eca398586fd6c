/- A number's decimal digits, and the number that they are. -/
import Derived.Test.YtmmkgopnccfiiaaGreatDoorMBase
import Derived.Lib.ItoaNum
namespace Go.Proofs.YtmmkgopnccfiiaaGreatDoor
set_option linter.unusedVariables false
open Go.RowKit
/-- The number that digits are. -/
def decV (l : List UInt8) : Nat := l.foldl (fun n b => n * 10 + (b.toNat - 48)) 0
theorem decV_snoc (l : List UInt8) (b : UInt8) : decV (l ++ [b]) = decV l * 10 + (b.toNat - 48) := by unfold decV; rw [List.foldl_append]; rfl
theorem dec_digits : ∀ (u : Nat), decV (Lib.decDigits u) = u ∧ (∀ b ∈ Lib.decDigits u, 48 ≤ b.toNat ∧ b.toNat ≤ 57) ∧ 1 ≤ (Lib.decDigits u).length := by
  intro u
  induction u using Nat.strongRecOn with
  | _ u ih =>
    by_cases h : u < 10
    · rw [Lib.decDigits_one h]
      have hb : (UInt8.ofNat (48 + u)).toNat = 48 + u := byte_of _ (by omega)
      refine ⟨?_, fun b hb' => ?_, by simp⟩
      · show 0 * 10 + ((UInt8.ofNat (48 + u)).toNat - 48) = u
        rw [hb]; omega
      · obtain rfl := List.mem_singleton.1 hb'
        rw [hb]; omega
    · obtain ⟨h1, h2, h3⟩ := ih (u / 10) (by omega)
      have hb : (UInt8.ofNat (48 + u % 10)).toNat = 48 + u % 10 := byte_of _ (by omega)
      have e : Lib.decDigits u = Lib.decDigits (u / 10) ++ [UInt8.ofNat (48 + u % 10)] := by rw [Lib.decDigits, dif_neg h]
      rw [e]
      refine ⟨?_, fun b hb' => ?_, by simp⟩
      · rw [decV_snoc, h1, hb]; omega
      · rcases List.mem_append.1 hb' with hb' | hb'
        · exact h2 b hb'
        · obtain rfl := List.mem_singleton.1 hb'
          rw [hb]; omega
end Go.Proofs.YtmmkgopnccfiiaaGreatDoor
