/- bytes.Equal, of any bytes. -/
import Derived.Test.YtmmkgopnccfiiaaGreatDoorMBase
import Derived.RegionTactic
import Derived.Deep.QuietTactic
import Derived.Deep.DeepCutAuto
namespace Go.Proofs.YtmmkgopnccfiiaaGreatDoor
set_option linter.unusedVariables false
set_option maxRecDepth 100000
open Go.RowKit
theorem bequal_any (u v : Value) (x y : List UInt8) (w : World) (hx : RdB w u x) (hy : RdB w v y) :
    Calls Tryz.prog 71 #[u, v] w fun e w' => e = .returned (.bool (decide (x = y))) ∧ DrN w w' := by
  have x1 : ∀ j, (convert 51 9 u).run Tryz.prog (w.drewN j) = .ok (.string ⟨x.toArray⟩) (w.drewN j) := fun j => (hx.below (DrN.below ⟨j, rfl⟩ _)).text
  have x2 : ∀ j, (convert 51 9 v).run Tryz.prog (w.drewN j) = .ok (.string ⟨y.toArray⟩) (w.drewN j) := fun j => (hy.below (DrN.below ⟨j, rfl⟩ _)).text
  have x3 := hx.text
  have x4 := hy.text
  have hE : (x == y) = decide (x = y) := by rw [Bool.eq_iff_iff, beq_iff_eq, decide_eq_true_eq]
  obtain ⟨a1, n1, c1, rfl, -⟩ := hx.form
  obtain ⟨a2, n2, c2, rfl, -⟩ := hy.form
  generalize decide (x = y) = r at *
  clear hx hy
  go_enter Tryz.func71, Tryz.ntmps71
  go_wp2_with fail
  go_ret
  exact ⟨rfl, DrN.refl _⟩
end Go.Proofs.YtmmkgopnccfiiaaGreatDoor
