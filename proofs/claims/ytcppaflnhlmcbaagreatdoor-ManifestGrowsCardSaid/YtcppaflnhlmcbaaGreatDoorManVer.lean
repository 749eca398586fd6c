/- What a version that is a manifest's field tells. -/
import Derived.Test.YtcppaflnhlmcbaaGreatDoorManAt
namespace Go.Proofs.YtcppaflnhlmcbaaGreatDoor
set_option linter.unusedVariables false
open Go.RowKit Go.Maps
set_option maxHeartbeats 1000000 in
theorem vnext_off {w : World} {mb : Nat} {n0 : Int} (c4 : w.cell? ⟨mb, 4, none⟩ = some (.int .i64 n0)) :
    Calls Tryz.prog 12 #[.pointer (some ⟨mb, 3, none⟩)] w fun e w' => e = .returned (.int .i64 (vOr n0 1)) ∧ Below w.heap.size w w' := by
  have HC := Lib.hid (vor64_any w.heap.size n0 1 _ (BlkAt.new w #[.int .i64 n0, .int .i64 1] 2))
  have HB := Lib.hid ((Below.refl w.heap.size w).alloc (Nat.le_refl _) (.cells #[.int .i64 n0, .int .i64 1] 2))
  generalize vOr n0 1 = V at *
  go_enter Tryz.func12, Tryz.ntmps12
  go_wp2_with fail
  refine HC.out.mono ?_
  rintro e w' ⟨rfl, rfl⟩
  clear HC
  go_wp2_with fail
  go_ret
  exact ⟨rfl, HB.out⟩
end Go.Proofs.YtcppaflnhlmcbaaGreatDoor
