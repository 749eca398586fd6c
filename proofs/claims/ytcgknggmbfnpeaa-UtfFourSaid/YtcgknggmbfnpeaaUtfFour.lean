/- The walk of the law UtfFour. -/
import Derived.Test.YtcgknggmbfnpeaaUtfBegun
import Derived.Laws.BytesArg
namespace Go.Proofs.Ytcgknggmbfnpeaa
set_option linter.unusedVariables false
open Go.RowKit
theorem strOfNums_le (l : List Int) : (strOfNums l).size = l.length := strOfNums_size l
set_option maxHeartbeats 1000000 in
set_option maxRecDepth 100000 in
theorem utfFour_walk (w : World) (a0 : Int) (w0 : (Lit.int .u8 a0).wf = true) (a1 : Int) (w1 : (Lit.int .u8 a1).wf = true) (a2 : Int) (w2 : (Lit.int .u8 a2).wf = true) (a3 : Int) (w3 : (Lit.int .u8 a3).wf = true) :
    Calls Try.prog 5 #[.int .u8 a0, .int .u8 a1, .int .u8 a2, .int .u8 a3] w fun e w' => e = .returned (.bool true) ∧ Below w.heap.size w w' := by
  clear w0 w1 w2 w3
  have hcv := fun w : World => conv4 w a0 a1 a2 a3
  have hsz : (strOfNums [a0, a1, a2, a3]).size ≤ maxLen := by rw [strOfNums_size]; simp [maxLen]
  have HF : Hid (∀ w, Calls Try.prog 13 #[.string (strOfNums [a0, a1, a2, a3])] w fun e w' => e = .returned (.tuple #[.int .i64 (firstP (strOfNums [a0, a1, a2, a3]).data.toList).1, .int .i64 ((firstP (strOfNums [a0, a1, a2, a3]).data.toList).2 : Nat)]) ∧ w = w') := Lib.hid (first_any _ hsz)
  have HG : Hid (∀ w, Calls Try.prog 14 #[.string (strOfNums [a0, a1, a2, a3])] w fun e w' => e = .returned (.tuple #[.int .i64 (firstP (strOfNums [a0, a1, a2, a3]).data.toList).1, .int .i64 ((firstP (strOfNums [a0, a1, a2, a3]).data.toList).2 : Nat)]) ∧ Below w.heap.size w w') := Lib.hid (rfirst_any _ hsz)
  clear hsz
  generalize firstP (strOfNums [a0, a1, a2, a3]).data.toList = r at *
  generalize strOfNums [a0, a1, a2, a3] = s at *
  obtain ⟨c, n⟩ := r
  have e1 : (c == c) = true := by simp
  have e2 : ((n : Int) == (n : Int)) = true := by simp
  go_enter Try.func5, Try.ntmps5
  go_wp2_with fail
  refine (begun_any _).mono ?_
  rintro e w1 ⟨rfl, hb1⟩
  have hb2 := hb1.alloc hb1.size (.cells #[.int .u8 a0, .int .u8 a1, .int .u8 a2, .int .u8 a3] 5)
  go_wp2_with fail
  refine (HF.out _).mono ?_
  rintro e w' ⟨rfl, rfl⟩
  go_wp2_with fail
  refine (HG.out _).mono ?_
  rintro e w3 ⟨rfl, hb3⟩
  have hbb := hb2.trans (hb3.mono hb2.size)
  clear HF HG hb1 hb2 hb3 hcv
  go_wp2
  go_ret
  exact ⟨rfl, hbb⟩
end Go.Proofs.Ytcgknggmbfnpeaa
