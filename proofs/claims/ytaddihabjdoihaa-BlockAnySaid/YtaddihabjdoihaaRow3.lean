/- A block of three cells. -/
import Derived.Test.YtaddihabjdoihaaSlices
namespace Go.Proofs.Ytaddihabjdoihaa
set_option linter.unusedVariables false
open Go.RowKit
/-- The three cells of a block, as they stand and not frozen. -/
def Row3 (w : World) (b : Nat) (v0 v1 v2 : Value) : Prop :=
  (w.cell? ⟨b, 0, none⟩ = some v0 ∧ w.cell? ⟨b, 1, none⟩ = some v1 ∧ w.cell? ⟨b, 2, none⟩ = some v2) ∧
  (w.frozen? ⟨b, 0, none⟩ = false ∧ w.frozen? ⟨b, 1, none⟩ = false ∧ w.frozen? ⟨b, 2, none⟩ = false) ∧ b < w.heap.size
theorem Row3.new (w : World) (v0 v1 v2 : Value) (T : TypeId) : Row3 (w.alloc (.cells #[v0, v1, v2] T)) w.heap.size v0 v1 v2 := by
  have hb := heap_alloc_new w (.cells #[v0, v1, v2] T)
  refine ⟨⟨?_, ?_, ?_⟩, ⟨?_, ?_, ?_⟩, by simp⟩
  all_goals first | (unfold World.cell?; rw [hb]; rfl) | (unfold World.frozen?; rw [hb]; rfl)
theorem Row3.below {w w' : World} {B b : Nat} {v0 v1 v2 : Value} (h : Row3 w b v0 v1 v2) (hb : Below B w w') (hB : b < B) : Row3 w' b v0 v1 v2 := by
  obtain ⟨⟨c0, c1, c2⟩, ⟨f0, f1, f2⟩, h5⟩ := h
  refine ⟨⟨?_, ?_, ?_⟩, ⟨?_, ?_, ?_⟩, Nat.lt_of_lt_of_le h5 hb.size⟩
  all_goals first | (rw [hb.cell (p := ⟨b, _, none⟩) hB]; assumption) | (rw [hb.frozen (p := ⟨b, _, none⟩) hB]; assumption)
theorem Row3.drew {w : World} {b : Nat} {v0 v1 v2 : Value} (h : Row3 w b v0 v1 v2) : Row3 w.drew b v0 v1 v2 := h
theorem Row3.kept {w w' : World} {b : Nat} {row : Option Nat} {v0 v1 v2 : Value} (h : Row3 w b v0 v1 v2) (hg : w.grownBy w' row) (hne : some b ≠ row) : Row3 w' b v0 v1 v2 := by
  obtain ⟨⟨c0, c1, c2⟩, ⟨f0, f1, f2⟩, h5⟩ := h
  have hb := hg.block b h5 hne
  refine ⟨⟨?_, ?_, ?_⟩, ⟨?_, ?_, ?_⟩, Nat.lt_of_lt_of_le h5 hg.size⟩
  all_goals first | (rw [World.cell?_of_block (a := ⟨b, _, none⟩) hb]; assumption) | (rw [World.frozen?_of_block (a := ⟨b, _, none⟩) hb]; assumption)
end Go.Proofs.Ytaddihabjdoihaa
