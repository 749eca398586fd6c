/- The walks of strings.Compare and ckey.Compare; what they tell of the order by bytes. -/
import Derived.Test.YtmndhmodcglkjaaBytesOrd
import Derived.Lib.Bytealg
import Derived.Sort.Walk0
import Derived.RegionTactic
import Derived.Deep.QuietTactic
import Derived.BigQuiet
namespace Go.Proofs.Ytmndhmodcglkjaa
set_option linter.unusedVariables false
open Go.RowKit
open Go.Lib (compareBytes)
theorem cmpL_lt : ∀ a b : List UInt8, a < b → compareBytes a b = -1 ∧ compareBytes b a = 1
  | [], [], h => absurd h (List.lt_irrefl _)
  | [], _ :: _, _ => ⟨rfl, rfl⟩
  | _ :: _, [], h => by cases h
  | a :: aa, b :: bs, h => by
    unfold compareBytes
    rcases List.cons_lt_cons_iff.1 h with h1 | ⟨rfl, h1⟩
    · have h2 : ¬ b < a := fun k => absurd (UInt8.lt_trans h1 k) (UInt8.lt_irrefl _)
      rw [if_pos h1, if_neg h2, if_pos h1]; exact ⟨rfl, rfl⟩
    · simp only [if_neg (UInt8.lt_irrefl a)]; exact cmpL_lt aa bs h1
theorem cmpL_self : ∀ a : List UInt8, compareBytes a a = 0
  | [] => rfl
  | a :: aa => by unfold compareBytes; rw [if_neg (UInt8.lt_irrefl a), if_neg (UInt8.lt_irrefl a)]; exact cmpL_self aa
set_option maxHeartbeats 1000000 in
set_option maxRecDepth 100000 in
theorem bcmp_any (a b : ByteArray) (w : World) :
    Calls Try.prog 53 #[.string a, .string b] w fun e w' => e = .returned (.int .i64 (compareBytes a.data.toList b.data.toList)) ∧ w = w' := by
  go_enter Try.func53, Try.ntmps53
  go_wp2
  rw [run_callFunc_extern Try.func54 (by kernel_rfl) (by kernel_rfl) (by kernel_rfl) (e := Extern.BytealgCompare.compare) (by kernel_rfl), Lib.run_compareString]
  simp only [Result.andThen]
  rw [Oper.upon_value]
  go_wp2
  go_ret
  exact ⟨rfl, rfl⟩
set_option maxHeartbeats 1000000 in
theorem scmp_any (a b : ByteArray) (w : World) :
    Calls Try.prog 51 #[.string a, .string b] w fun e w' => e = .returned (.int .i64 (compareBytes a.data.toList b.data.toList)) ∧ w = w' := by
  go_enter Try.func51, Try.ntmps51
  go_wp2_with (go_at_call 53; refine (bcmp_any _ _ _).mono ?_; rintro e w' ⟨rfl, rfl⟩)
  go_ret
  exact ⟨rfl, rfl⟩
set_option maxHeartbeats 1000000 in
theorem kcmp_any (a b : ByteArray) (w : World) :
    Calls Try.prog 49 #[.string a, .string b] w fun e w' => e = .returned (.int .i64 (compareBytes a.data.toList b.data.toList)) ∧ w = w' := by
  go_enter Try.func49, Try.ntmps49
  go_wp2_with (go_at_call 51; refine (scmp_any _ _ _).mono ?_; rintro e w' ⟨rfl, rfl⟩)
  go_ret
  exact ⟨rfl, rfl⟩
theorem kcmp_lt (a b : ByteArray) (h : bl a b) (w : World) : Calls Try.prog 49 #[.string a, .string b] w fun e w' => e = .returned (.int .i64 (-1)) ∧ w = w' := by
  have := kcmp_any a b w
  rwa [(cmpL_lt _ _ h).1] at this
theorem kcmp_gt (a b : ByteArray) (h : bl b a) (w : World) : Calls Try.prog 49 #[.string a, .string b] w fun e w' => e = .returned (.int .i64 1) ∧ w = w' := by
  have := kcmp_any a b w
  rwa [(cmpL_lt _ _ h).2] at this
theorem kcmp_self (a : ByteArray) (w : World) : Calls Try.prog 49 #[.string a, .string a] w fun e w' => e = .returned (.int .i64 0) ∧ w = w' := by
  have := kcmp_any a a w
  rwa [cmpL_self] at this
end Go.Proofs.Ytmndhmodcglkjaa
