/- What each law of versions begins with: one table goes in, one that meets it is refused. -/
import Derived.Test.YtmmkgopnccfiiaaGreatDoorMVerC
import Derived.Test.YtmmkgopnccfiiaaGreatDoorMVerB
namespace Go.Proofs.YtmmkgopnccfiiaaGreatDoor
set_option linter.unusedVariables false
set_option maxRecDepth 100000
open Go.RowKit
/-- One table in a row that was just laid. -/
theorem tab_one (w : World) (f : Tbf) : RdK encTbf 5 (w.alloc (.cells (encTbf f).toArray 35)) (.slice (some ⟨w.heap.size, 0, none⟩) 1 1) [f] := (own_oneK (E := 35) encTbf_len w f).rd encTbf_len
theorem edt_one (w : World) (f : Tbf) (n : Int) : EdAt (w.alloc (.cells #[.int .i64 f.num, .int .i64 f.lvl, .int .i64 f.siz, .string f.lo, .string f.hi] 35)) (.agg #[.int .i64 n, .int .i64 0, .int .i64 0, .slice (some ⟨w.heap.size, 0, none⟩) 1 1, .slice none 0 0]) ⟨n, 0, 0, [f], []⟩ := ⟨_, _, rfl, tab_one w f, RdV.nil _ _ _⟩
end Go.Proofs.YtmmkgopnccfiiaaGreatDoor
