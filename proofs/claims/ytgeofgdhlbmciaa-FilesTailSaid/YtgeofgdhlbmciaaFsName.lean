/- simfs.isName: a text that may be a name. -/
import Derived.Test.YtgeofgdhlbmciaaFsSmall
namespace Go.Proofs.Ytgeofgdhlbmciaa
set_option linter.unusedVariables false
open Go.RowKit Go.Maps
set_option maxHeartbeats 1000000 in
theorem name_any (s : ByteArray) (hs : s.size ≤ maxLen) (w : World) : Calls Try.prog 27 #[.string s] w fun e w' => e = .returned (.bool (nameOk s)) ∧ w = w' := by
  unfold maxLen at hs
  have HN := Lib.hid (fun c w => nmb_any c w)
  by_cases h1 : s.size < 1
  · have HX : Hid (nameOk s = false) := Lib.hid (by unfold nameOk; rw [decide_eq_false (by omega)]; rfl)
    have hz : ((s.size : Int) < 1) := by omega
    go_enter Try.func27, Try.ntmps27
    go_wp2
    go_ret
    rw [HX.out]
    exact ⟨rfl, rfl⟩
  · by_cases h2 : 20 < s.size
    · have HX : Hid (nameOk s = false) := Lib.hid (by unfold nameOk; rw [decide_eq_false (show ¬ s.size ≤ 20 by omega), Bool.and_false]; rfl)
      have hz : ¬ ((s.size : Int) < 1) := by omega
      have hz2 : ((20 : Int) < (s.size : Int)) := by omega
      go_enter Try.func27, Try.ntmps27
      go_wp2
      go_ret
      rw [HX.out]
      exact ⟨rfl, rfl⟩
    · have HX : Hid (nameOk s = s.data.toList.all nmB) := Lib.hid (by unfold nameOk; rw [decide_eq_true (by omega), decide_eq_true (by omega)]; rfl)
      have hz : ¬ ((s.size : Int) < 1) := by omega
      have hz2 : ¬ ((20 : Int) < (s.size : Int)) := by omega
      have hl := size_toList s
      go_enter Try.func27, Try.ntmps27
      go_wp2
      go_loop [14] (fun i => ∃ k : Nat, k ≤ s.size ∧ i = .int .i64 k ∧ Hid ((s.data.toList.take k).all nmB = true)) (fun i => s.size - (intOf i).toNat)
      case atStart => exact ⟨0, Nat.zero_le _, rfl, Lib.hid rfl⟩
      case round =>
        obtain ⟨k, hk, rfl, hA⟩ := hrel
        by_cases hlt : k < s.size
        · have hlt' : k < s.data.toList.length := by omega
          have HT : Hid ((s.data.toList.take (k + 1)).all nmB = nmB s.data.toList[k]) := Lib.hid (by rw [List.take_succ_eq_append_getElem hlt', List.all_append, hA.out]; simp)
          have HF : Hid (nmB s.data.toList[k] = false → s.data.toList.all nmB = false) := Lib.hid fun h => by
            rw [List.all_eq_false]
            exact ⟨_, List.getElem_mem hlt', by rw [h]; simp⟩
          have HC := Lib.hid (HN.out s[k] w)
          rw [at_toList s k hlt] at HT HF
          obtain ⟨q, hq⟩ : ∃ q, nmB s[k] = q := ⟨_, rfl⟩
          rw [hq] at HT HF HC
          clear hq
          go_wp2_with fail
          refine HC.out.mono ?_
          rintro e w' ⟨rfl, rfl⟩
          cases q with
          | false =>
            go_wp2
            go_ret
            rw [HX.out, HF.out trivial]
            exact ⟨rfl, rfl⟩
          | true =>
            go_wp2
            go_round
            case rel => exact ⟨k + 1, by omega, by go_num, HT⟩
            case measure => simp [intOf]; omega
        · obtain rfl : k = s.size := by omega
          go_wp2
          go_ret
          rw [HX.out]
          have := hA.out
          rw [← hl, List.take_length] at this
          rw [this]
          exact ⟨rfl, rfl⟩
end Go.Proofs.Ytgeofgdhlbmciaa
