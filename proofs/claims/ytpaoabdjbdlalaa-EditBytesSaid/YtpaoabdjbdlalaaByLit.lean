/- '[]byte' of a constant text: the row that is laid, its conversion, what it reads as. -/
import Derived.Test.YtpaoabdjbdlalaaByt
import Derived.Lib.SlBytesConst
namespace Go.Proofs.Ytpaoabdjbdlalaa
set_option linter.unusedVariables false
open Go.RowKit
/-- the world behind '[]byte("..")' -/
def litW (w : World) (bs : List UInt8) : World := w.alloc (.cells (bs.map bv).toArray 5 (bs.length, bs.length + 1))
theorem litW_below (w : World) (bs : List UInt8) : Below w.heap.size w (litW w bs) := (Below.refl _ _).alloc (Nat.le_refl _) _
theorem litW_rd (w : World) (bs : List UInt8) (n : Nat) (hn : bs.length = n) (hm : n ≤ maxLen) : RdB (litW w bs) (.slice (some ⟨w.heap.size, 0, none⟩) n n) bs := by
  subst hn
  rcases Nat.eq_zero_or_pos bs.length with h | h
  · have : bs = [] := List.eq_nil_of_length_eq_zero h
    subst this
    exact RdB.nil _ _ _
  · refine .inr ⟨w.heap.size, 0, bs.length, by rw [List.length_map], by rw [List.length_map]; exact h, by rw [List.length_map]; exact Nat.le_refl _, hm, by simp [litW], fun i hi => ?_⟩
    rw [List.length_map] at hi
    rw [Nat.zero_add]
    unfold World.cell? litW
    rw [heap_alloc_new]
    simp [List.getD_eq_getElem?_getD, List.getElem?_eq_getElem hi, bv]
/-- the conversion, run; C as the walk spells the row. -/
theorem litW_run (w : World) (bs : List UInt8) (C : Array Value) (n : Nat) (hC : (bs.map bv).toArray = C) :
    (convert 28 28 (.slice (some ⟨w.heap.size, 0, none⟩) n n)).run Try.prog (w.alloc (.cells C 5)) = .ok (.slice (some ⟨w.heap.size, 0, none⟩) n n) (litW w bs) := by
  subst hC
  rw [Lib.run_convert_bytes_const (P := Try.prog) w 28 5 _ n n Try.underlying28 Try.underlying5]
  unfold litW
  simp only [List.size_toArray, List.length_map]
end Go.Proofs.Ytpaoabdjbdlalaa
