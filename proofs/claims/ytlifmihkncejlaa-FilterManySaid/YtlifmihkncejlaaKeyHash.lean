/- The walk of ckey.Hash. -/
import Derived.Test.YtlifmihkncejlaaHashM
import Derived.Deep.QuietTactic
import Derived.RegionTactic
import Derived.Lib.Hide
namespace Go.Proofs.Ytlifmihkncejlaa
set_option linter.unusedVariables false
open Go.RowKit
theorem hashS_take (s : ByteArray) (k : Nat) (h : k < s.size) : hashL (s.data.toList.take (k + 1)) = hstep (hashL (s.data.toList.take k)) (s[k]'h) :=
  hashL_take s.data.toList k (by rw [size_toList]; exact h)
theorem hash_all (s : ByteArray) : hashL (s.data.toList.take s.size) = hashL s.data.toList := by rw [List.take_of_length_le (by rw [size_toList]; omega)]
set_option maxHeartbeats 1000000 in
theorem khash_any (s : ByteArray) (hs : s.size ≤ maxLen) (w : World) :
    Calls Try.prog 10 #[.string s] w fun e w' => e = .returned (.int .u64 (hashL s.data.toList)) ∧ w = w' := by
  unfold maxLen at hs
  have HE := Lib.hid (hash_all s)
  go_enter Try.func10, Try.ntmps10
  go_wp2
  go_loop [3, 4] (fun h i => ∃ k : Nat, k ≤ s.size ∧ i = .int .i64 k ∧ h = .int .u64 (hashL (s.data.toList.take k))) (fun _ i => s.size - (intOf i).toNat)
  case atStart => exact ⟨0, Nat.zero_le _, rfl, rfl⟩
  case round =>
    obtain ⟨k, hk, rfl, rfl⟩ := hrel
    by_cases hlt : k < s.size
    · have HS := Lib.hid (hashS_take s k hlt)
      obtain ⟨x, hx⟩ : ∃ x, hashL (s.data.toList.take k) = x := ⟨_, rfl⟩
      rw [hx] at HS ⊢
      clear hx
      go_wp2
      go_round
      case rel => exact ⟨k + 1, by omega, by go_num, by rw [HS.out, hstep]⟩
      case measure => simp [intOf]; omega
    · obtain rfl : k = s.size := by omega
      go_wp2
      go_ret
      exact ⟨ret_int HE.out, rfl⟩
end Go.Proofs.Ytlifmihkncejlaa
