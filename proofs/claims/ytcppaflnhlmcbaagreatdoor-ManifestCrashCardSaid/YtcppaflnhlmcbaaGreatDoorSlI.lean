/- A slice of ints that is cut ('t[:5]'). -/
import Derived.Test.YtcppaflnhlmcbaaGreatDoorMBase
import Derived.Lib.SliceRun
import Derived.KernelRfl
namespace Go.Proofs.YtcppaflnhlmcbaaGreatDoor
set_option linter.unusedVariables false
open Go.RowKit Go.Maps
/-- '[]int' cut: run. -/
theorem sl_hI (W : World) (a : Option Addr) (n cap k : Nat) (hc : k ≤ cap) :
    (Instr.sliceAt 49 (.slice a n cap) none (some (.int .i64 (k : Int))) none).run Tryz.prog W = .ok (.slice a k cap) W := by
  have hT : Tryz.prog.underlying 49 = some (.slice (Tryz.prog.elem 49)) := by kernel_rfl
  have hS : (sizeOf (Tryz.prog.elem 49)).run Tryz.prog W = .ok 1 W := by kernel_rfl
  rw [run_sliceAt_slice (h := hT), run_slice_h (w := W) (t := 49) (a := a) (len := n) (cap := cap) (ht := hT) (kh := .i64) (h := k) (h0 := by omega) (h2 := by omega), hS]
  simp [Result.andThen, sliced, map_add0]
theorem rdV_cut {w : World} {a : Option Addr} {len cap : Nat} {vs : List Value} (h : RdV w (.slice a len cap) vs) (n : Nat) (hn : n ≤ len) (h0 : 0 < len) : RdV w (.slice a n cap) (vs.take n) := by
  obtain ⟨⟨b, off, rfl⟩, _⟩ := (rdV_len h).2 h0
  exact rdV_take h n hn
end Go.Proofs.YtcppaflnhlmcbaaGreatDoor
