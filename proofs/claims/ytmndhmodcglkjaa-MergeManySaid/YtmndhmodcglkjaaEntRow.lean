/- A block of five cells. -/
import Derived.Test.YtmndhmodcglkjaaSlices
namespace Go.Proofs.Ytmndhmodcglkjaa
set_option linter.unusedVariables false
open Go.RowKit
/-- The five cells of a block, as they stand and not frozen. -/
def Row5 (w : World) (b : Nat) (v0 v1 v2 v3 v4 : Value) : Prop :=
  (w.cell? ⟨b, 0, none⟩ = some v0 ∧ w.cell? ⟨b, 1, none⟩ = some v1 ∧ w.cell? ⟨b, 2, none⟩ = some v2 ∧ w.cell? ⟨b, 3, none⟩ = some v3 ∧ w.cell? ⟨b, 4, none⟩ = some v4) ∧
  (w.frozen? ⟨b, 0, none⟩ = false ∧ w.frozen? ⟨b, 1, none⟩ = false ∧ w.frozen? ⟨b, 2, none⟩ = false ∧ w.frozen? ⟨b, 3, none⟩ = false ∧ w.frozen? ⟨b, 4, none⟩ = false) ∧ b < w.heap.size
theorem Row5.new (w : World) (v0 v1 v2 v3 v4 : Value) (T : TypeId) : Row5 (w.alloc (.cells #[v0, v1, v2, v3, v4] T)) w.heap.size v0 v1 v2 v3 v4 := by
  have hb := heap_alloc_new w (.cells #[v0, v1, v2, v3, v4] T)
  refine ⟨⟨?_, ?_, ?_, ?_, ?_⟩, ⟨?_, ?_, ?_, ?_, ?_⟩, by simp⟩
  all_goals first | (unfold World.cell?; rw [hb]; rfl) | (unfold World.frozen?; rw [hb]; rfl)
theorem Row5.below {w w' : World} {B b : Nat} {v0 v1 v2 v3 v4 : Value} (h : Row5 w b v0 v1 v2 v3 v4) (hb : Below B w w') (hB : b < B) : Row5 w' b v0 v1 v2 v3 v4 := by
  obtain ⟨⟨c0, c1, c2, c3, c4⟩, ⟨f0, f1, f2, f3, f4⟩, h5⟩ := h
  refine ⟨⟨?_, ?_, ?_, ?_, ?_⟩, ⟨?_, ?_, ?_, ?_, ?_⟩, Nat.lt_of_lt_of_le h5 hb.size⟩
  all_goals first | (rw [hb.cell (p := ⟨b, _, none⟩) hB]; assumption) | (rw [hb.frozen (p := ⟨b, _, none⟩) hB]; assumption)
theorem Row5.drew {w : World} {b : Nat} {v0 v1 v2 v3 v4 : Value} (h : Row5 w b v0 v1 v2 v3 v4) : Row5 w.drew b v0 v1 v2 v3 v4 := h
end Go.Proofs.Ytmndhmodcglkjaa
