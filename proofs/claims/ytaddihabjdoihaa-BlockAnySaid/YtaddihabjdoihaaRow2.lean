/- A block of two cells. -/
import Derived.Test.YtaddihabjdoihaaSlices
namespace Go.Proofs.Ytaddihabjdoihaa
set_option linter.unusedVariables false
open Go.RowKit
/-- The two cells of a block, as they stand and not frozen. -/
def Row2 (w : World) (b : Nat) (v0 v1 : Value) : Prop :=
  (w.cell? ⟨b, 0, none⟩ = some v0 ∧ w.cell? ⟨b, 1, none⟩ = some v1) ∧ (w.frozen? ⟨b, 0, none⟩ = false ∧ w.frozen? ⟨b, 1, none⟩ = false) ∧ b < w.heap.size
theorem Row2.new (w : World) (v0 v1 : Value) (T : TypeId) : Row2 (w.alloc (.cells #[v0, v1] T)) w.heap.size v0 v1 := by
  have hb := heap_alloc_new w (.cells #[v0, v1] T)
  refine ⟨⟨?_, ?_⟩, ⟨?_, ?_⟩, by simp⟩
  all_goals first | (unfold World.cell?; rw [hb]; rfl) | (unfold World.frozen?; rw [hb]; rfl)
theorem Row2.below {w w' : World} {B b : Nat} {v0 v1 : Value} (h : Row2 w b v0 v1) (hb : Below B w w') (hB : b < B) : Row2 w' b v0 v1 := by
  obtain ⟨⟨c0, c1⟩, ⟨f0, f1⟩, h5⟩ := h
  refine ⟨⟨?_, ?_⟩, ⟨?_, ?_⟩, Nat.lt_of_lt_of_le h5 hb.size⟩
  all_goals first | (rw [hb.cell (p := ⟨b, _, none⟩) hB]; assumption) | (rw [hb.frozen (p := ⟨b, _, none⟩) hB]; assumption)
theorem Row2.put {w : World} {b : Nat} {v0 v1 : Value} (h : Row2 w b v0 v1) (u0 u1 : Value) : Row2 ((w.setCell ⟨b, 0, none⟩ u0).setCell ⟨b, 1, none⟩ u1) b u0 u1 := by
  obtain ⟨⟨c0, c1⟩, ⟨f0, f1⟩, h5⟩ := h
  refine ⟨⟨?_, ?_⟩, ⟨?_, ?_⟩, by simpa using h5⟩ <;> simp [go_sem, c0, c1, f0, f1]
/-- both cells stored to, and a block laid behind it. -/
theorem Row2.putAl {w : World} {b : Nat} {v0 v1 : Value} (h : Row2 w b v0 v1) (u0 u1 : Value) (o : Obj) : Row2 (((w.setCell ⟨b, 0, none⟩ u0).setCell ⟨b, 1, none⟩ u1).alloc o) b u0 u1 :=
  (h.put u0 u1).below ((Below.refl _ _).alloc (Nat.le_refl _) _) (by simpa using h.2.2)
theorem below_putAl {w w1 : World} {b B : Nat} (h : Below B w w1) (hb : B ≤ b) (hs : B ≤ w1.heap.size) (u0 u1 : Value) (o : Obj) : Below B w (((w1.setCell ⟨b, 0, none⟩ u0).setCell ⟨b, 1, none⟩ u1).alloc o) :=
  ((h.setCell hb _).setCell hb _).alloc (by simpa using hs) _
end Go.Proofs.Ytaddihabjdoihaa
