/- What a version tells of its levels is what the document's tells. -/
import Derived.Test.YtmmkgopnccfiiaaGreatDoorMVerA
namespace Go.Proofs.YtmmkgopnccfiiaaGreatDoor
set_option linter.unusedVariables false
theorem good_ok {V : Ver} (g : GoodV V) : ∀ f ∈ V.fs, f.ok := fun f hf => by
  obtain ⟨-, -, -, h1, h2, -⟩ := notBadTb (g.right f hf)
  constructor <;> (unfold maxLen; omega)
end Go.Proofs.YtmmkgopnccfiiaaGreatDoor
