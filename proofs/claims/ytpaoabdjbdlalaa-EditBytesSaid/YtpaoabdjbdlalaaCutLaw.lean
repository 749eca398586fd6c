/- The walk of the laws' Cut. -/
import Derived.Test.YtpaoabdjbdlalaaSlices
import Derived.RegionTactic
import Derived.Deep.QuietTactic
import Derived.BigQuiet
namespace Go.Proofs.Ytpaoabdjbdlalaa
set_option linter.unusedVariables false
open Go.RowKit
set_option maxHeartbeats 400000 in
theorem cut_any (s : ByteArray) (n : Nat) (hn : n ≤ 1000000) (hs : s.size ≤ maxLen) (w : World) :
    Calls Try.prog 13 #[.string s, .int .i64 n] w fun e w' => ∃ t : ByteArray, e = .returned (.string t) ∧ t.size ≤ n ∧ w = w' := by
  go_enter Try.func13, Try.ntmps13
  go_wp2
  · go_ret
    exact ⟨_, rfl, by rw [ByteArray.size_extract]; omega, rfl⟩
  · go_ret
    exact ⟨_, rfl, by omega, rfl⟩
set_option maxHeartbeats 400000 in
/-- the same text at each call -/
theorem cut_fix (s : ByteArray) (n : Nat) (hn : n ≤ 1000000) (hs : s.size ≤ maxLen) :
    ∃ t : ByteArray, t.size ≤ n ∧ ∀ w, Calls Try.prog 13 #[.string s, .int .i64 n] w fun e w' => e = .returned (.string t) ∧ w' = w := by
  by_cases h : n < s.size
  · refine ⟨s.extract 0 n, by rw [ByteArray.size_extract]; omega, fun w => ?_⟩
    have hi : (n : Int) < (s.size : Int) := by omega
    go_enter Try.func13, Try.ntmps13
    go_wp2
    go_ret
    exact ⟨rfl, rfl⟩
  · refine ⟨s, by omega, fun w => ?_⟩
    have hi : ¬ (n : Int) < (s.size : Int) := by omega
    go_enter Try.func13, Try.ntmps13
    go_wp2
    go_ret
    exact ⟨rfl, rfl⟩
end Go.Proofs.Ytpaoabdjbdlalaa
