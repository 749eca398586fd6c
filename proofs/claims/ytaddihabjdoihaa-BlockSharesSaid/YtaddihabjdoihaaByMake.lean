/- 'make([]byte, n)'. -/
import Derived.Test.YtaddihabjdoihaaByt
import Derived.Laws.OwnMore
import Derived.Deep.OwnRows
namespace Go.Proofs.Ytaddihabjdoihaa
set_option linter.unusedVariables false
open Go.RowKit
/-- 'make([]byte, n)' -/
theorem mkB_row (w : World) (K : Nat) (hK : K ≤ 1000000000000) : (w.alloc (.cells (madeCells #[.int .u8 0] K) 5)).ownsRow w.heap.size 5 1 (.slice (some ⟨w.heap.size, 0, none⟩) K K) K ((List.replicate K (0 : UInt8)).map bv) := by
  have := World.ownsRow_lit (base := w.heap.size) (e := 5) (size := 1) w (madeCells #[.int .u8 0] K) K (Nat.le_refl _) (by unfold maxLen; omega) (by rw [size_madeCells]; omega)
  rw [toList_madeCells_one] at this
  rw [List.map_replicate]
  exact this
theorem row_B {w : World} {B : Nat} {v : Value} {n : Nat} {bs : List UInt8} (h : w.ownsRow B 5 1 v n (bs.map bv)) : OwnB B w v bs := by
  unfold OwnB OwnV
  have h1 := h.1
  rw [Nat.mul_one] at h1
  rw [h1]; exact h
theorem mkB_run (K : Nat) (hK : K ≤ 1000000000000) (w : World) : (Instr.makeSlice 33 (.int .i64 (K : Int)) (.int .i64 (K : Int))).run Try.prog w = .ok (.slice (some ⟨w.heap.size, 0, none⟩) K K) (w.alloc (.cells (madeCells #[.int .u8 0] K) 5)) :=
  run_make_row' (P := Try.prog) 33 5 (.int .u8 0) 1 Try.underlying33 (by kernel_rfl) rfl .i64 .i64 K (by omega) (by omega) w
theorem mkB_own (w : World) (K : Nat) (hK : K ≤ 1000000000000) : OwnB w.heap.size (w.alloc (.cells (madeCells #[.int .u8 0] K) 5)) (.slice (some ⟨w.heap.size, 0, none⟩) K K) (List.replicate K 0) := row_B (mkB_row w K hK)
end Go.Proofs.Ytaddihabjdoihaa
