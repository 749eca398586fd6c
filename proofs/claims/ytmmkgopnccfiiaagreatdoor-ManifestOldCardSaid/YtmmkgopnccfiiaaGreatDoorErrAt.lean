/- What strconv.ErrSyntax holds. -/
import Derived.Test.YtmmkgopnccfiiaaGreatDoorMBase
namespace Go.Proofs.YtmmkgopnccfiiaaGreatDoor
set_option linter.unusedVariables false
open Go.RowKit
/-- what is read of strconv.ErrSyntax is some interface value. -/
def ErrAt (w : World) : Prop := ∃ t p, w.cell? ⟨1, 0, none⟩ = some (.iface t p) ∧ 1 < w.heap.size
theorem ErrAt.below {w w' : World} (h : ErrAt w) (hb : Below w.heap.size w w') : ErrAt w' := by
  obtain ⟨t, p, h1, h2⟩ := h
  exact ⟨t, p, by rw [hb.cell (p := ⟨_, 0, none⟩) h2]; exact h1, Nat.lt_of_lt_of_le h2 hb.size⟩
end Go.Proofs.YtmmkgopnccfiiaaGreatDoor
