/- What a version that is a manifest's field tells. -/
import Derived.Test.YtmmkgopnccfiiaaGreatDoorManAt
namespace Go.Proofs.YtmmkgopnccfiiaaGreatDoor
set_option linter.unusedVariables false
open Go.RowKit Go.Maps
end Go.Proofs.YtmmkgopnccfiiaaGreatDoor
