/- What the listed table of crc reads as, in the words of the walks. -/
import Derived.Test.YtmmkgopnccfiiaaGreatDoorMCrc
import Derived.Test.YtmmkgopnccfiiaaGreatDoorMBase
import Derived.Lib.LaidU8
import Derived.LaidMore
import Derived.Lay
import Derived.Stop.Joined
import Derived.SevenTiedAt
import Derived.MakeChecks
namespace Go.Proofs.YtmmkgopnccfiiaaGreatDoor
open Go.ChangeShapes Go.WideShapes Go.ChangeAt Go.RowKit Go.Lib
set_option linter.unusedVariables false
theorem tab_datum : (Rows.laid_incipit_crc_halves : DataW Unit) = .agg ((List.range 16).map fun i => .lit (.int .u32 (cs4 i : Int))) := by kernel_rfl
theorem tab_of {W : World} (h : VarReads Tryz.prog W "incipit/crc.halves" Rows.laid_incipit_crc_halves) : TabAt W := by
  obtain ⟨g, t, cs, fuel, p, hg, ht, hv, hd⟩ := h
  obtain rfl := Option.some.inj ((show Tryz.prog.globalNamed "incipit/crc.halves" = some 0 by kernel_rfl).symm.trans hg)
  obtain rfl := Option.some.inj ((show (Tryz.prog.globals[0]?).map (·.type) = some 185 by kernel_rfl).symm.trans ht)
  obtain ⟨xs, m, _, ex, _, hl, hel⟩ := DataW.trod_array Tryz.underlying185 hd
  have c5 : Tryz.prog.cellsOf 135 = 1 := by kernel_rfl
  rw [tab_datum] at ex
  have e3 : (xs.map (·.1)) = (List.range 16).map fun i => (DataW.lit (.int .u32 (cs4 i : Int)) : DataW Unit) := (DataW.agg.inj (Prod.mk.inj ex).1).symm
  have hcell : ∀ i : Nat, i < 16 → W.cell? ⟨0, i, none⟩ = some (.int .u32 (cs4 i : Int)) := fun r hr => by
    have hE := hel r hr
    rw [c5, Nat.mul_one, List.getElem?_eq_getElem (by omega)] at hE
    obtain ⟨z, e1, e2, _⟩ := DataW.trod_int Tryz.underlying135 hE
    have e4 : (xs.map (·.1))[r]? = ((List.range 16).map fun i => (DataW.lit (.int .u32 (cs4 i : Int)) : DataW Unit))[r]? := by rw [e3]
    rw [List.getElem?_map, List.getElem?_map, List.getElem?_eq_getElem (by omega : r < xs.length), List.getElem?_eq_getElem (by simpa using hr), e2] at e4
    have hz : z = (cs4 r : Int) := by simpa using e4
    rw [World.var?_cell hg hv r, ← hz]
    have : cs.toList[r]? = some (.int .u32 z) := by
      have h0 : ((cs.toList.drop r).take 1)[0]? = some (.int .u32 z) := by rw [e1]; rfl
      simpa using h0
    simpa using this
  exact ⟨World.block_lt_of_cell? W _ (hcell 0 (by omega)), hcell⟩
end Go.Proofs.YtmmkgopnccfiiaaGreatDoor
