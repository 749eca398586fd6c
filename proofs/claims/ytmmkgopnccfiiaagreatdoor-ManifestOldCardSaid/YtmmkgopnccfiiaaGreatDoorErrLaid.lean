/- What the listed variable strconv.ErrSyntax reads as. -/
import Derived.Test.YtmmkgopnccfiiaaGreatDoorErrAt
import Derived.Test.YtmmkgopnccfiiaaGreatDoorMBase
import Derived.Lib.LaidU8
import Derived.LaidMore
import Derived.Lay
import Derived.Stop.Joined
import Derived.SevenTiedAt
import Derived.MakeChecks
namespace Go.Proofs.YtmmkgopnccfiiaaGreatDoor
open Go.ChangeShapes Go.WideShapes Go.ChangeAt Go.RowKit Go.Lib
set_option linter.unusedVariables false
theorem err_of {W : World} (h : VarReads Tryz.prog W "strconv.ErrSyntax" Rows.laid_strconv_ErrSyntax) : ErrAt W := by
  obtain ⟨g, t, cs, fuel, p, hg, ht, hv, hd⟩ := h
  obtain rfl := Option.some.inj ((show Tryz.prog.globalNamed "strconv.ErrSyntax" = some 1 by kernel_rfl).symm.trans hg)
  obtain rfl := Option.some.inj ((show (Tryz.prog.globals[1]?).map (·.type) = some 107 by kernel_rfl).symm.trans ht)
  obtain ⟨fuel', u, v, e1, -, -⟩ := iface_of_trod Tryz.underlying107 hd
  have hc : W.cell? ⟨1, 0, none⟩ = some (.iface u v) := by
    rw [World.var?_cell hg hv 0]
    have : cs.toList[0]? = some (.iface u v) := by rw [e1]; rfl
    simpa using this
  exact ⟨u, v, hc, World.block_lt_of_cell? W _ hc⟩
end Go.Proofs.YtmmkgopnccfiiaaGreatDoor
