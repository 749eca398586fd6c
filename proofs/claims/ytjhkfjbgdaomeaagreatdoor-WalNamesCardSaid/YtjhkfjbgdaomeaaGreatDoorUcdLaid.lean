/- What the listed variables of the library read as, in the words of the walks: the table of blanks, the syntax error. -/
import Derived.Test.YtjhkfjbgdaomeaaGreatDoorMUcd
import Derived.Test.YtjhkfjbgdaomeaaGreatDoorMBase
import Derived.Lib.LaidU8
import Derived.LaidMore
import Derived.Lay
import Derived.Stop.Joined
import Derived.SevenTiedAt
import Derived.MakeChecks
namespace Go.Proofs.YtjhkfjbgdaomeaaGreatDoor
open Go.ChangeShapes Go.WideShapes Go.ChangeAt Go.RowKit Go.Lib
set_option linter.unusedVariables false
def spZ (i : Nat) : Int := if 9 ≤ i ∧ i ≤ 13 ∨ i = 32 then 1 else 0
theorem sp_datum : (Rows.laid_strings_asciiSpace : DataW Unit) = .agg ((List.range 256).map fun i => .lit (.int .u8 (spZ i))) := by kernel_rfl
theorem sp_of {W : World} (h : VarReads Tryz.prog W "strings.asciiSpace" Rows.laid_strings_asciiSpace) : SpAt W := by
  obtain ⟨g, t, cs, fuel, p, hg, ht, hv, hd⟩ := h
  obtain rfl := Option.some.inj ((show Tryz.prog.globalNamed "strings.asciiSpace" = some 4 by kernel_rfl).symm.trans hg)
  obtain rfl := Option.some.inj ((show (Tryz.prog.globals[4]?).map (·.type) = some 205 by kernel_rfl).symm.trans ht)
  obtain ⟨xs, m, _, ex, _, hl, hel⟩ := DataW.trod_array Tryz.underlying205 hd
  have c5 : Tryz.prog.cellsOf 5 = 1 := by kernel_rfl
  rw [sp_datum] at ex
  have e3 : (xs.map (·.1)) = (List.range 256).map fun i => (DataW.lit (.int .u8 (spZ i)) : DataW Unit) := (DataW.agg.inj (Prod.mk.inj ex).1).symm
  have hcell : ∀ i : Nat, i < 256 → W.cell? ⟨4, i, none⟩ = some (.int .u8 (spZ i)) := fun r hr => by
    have hE := hel r hr
    rw [c5, Nat.mul_one, List.getElem?_eq_getElem (by omega)] at hE
    obtain ⟨z, e1, e2, _⟩ := DataW.trod_int Tryz.underlying5 hE
    have e4 : (xs.map (·.1))[r]? = ((List.range 256).map fun i => (DataW.lit (.int .u8 (spZ i)) : DataW Unit))[r]? := by rw [e3]
    rw [List.getElem?_map, List.getElem?_map, List.getElem?_eq_getElem (by omega : r < xs.length), List.getElem?_eq_getElem (by simpa using hr), e2] at e4
    have hz : z = spZ r := by simpa using e4
    rw [World.var?_cell hg hv r, ← hz]
    have : cs.toList[r]? = some (.int .u8 z) := by
      have h0 : ((cs.toList.drop r).take 1)[0]? = some (.int .u8 z) := by rw [e1]; rfl
      simpa using h0
    simpa using this
  exact ⟨World.block_lt_of_cell? W _ (hcell 0 (by omega)), hcell⟩
theorem err_of {W : World} (h : VarReads Tryz.prog W "strconv.ErrSyntax" Rows.laid_strconv_ErrSyntax) : ErrAt W := by
  obtain ⟨g, t, cs, fuel, p, hg, ht, hv, hd⟩ := h
  obtain rfl := Option.some.inj ((show Tryz.prog.globalNamed "strconv.ErrSyntax" = some 9 by kernel_rfl).symm.trans hg)
  obtain rfl := Option.some.inj ((show (Tryz.prog.globals[9]?).map (·.type) = some 196 by kernel_rfl).symm.trans ht)
  obtain ⟨fuel', u, v, e1, -, -⟩ := iface_of_trod Tryz.underlying196 hd
  have hc : W.cell? ⟨9, 0, none⟩ = some (.iface u v) := by
    rw [World.var?_cell hg hv 0]
    have : cs.toList[0]? = some (.iface u v) := by rw [e1]; rfl
    simpa using this
  exact ⟨u, v, hc, World.block_lt_of_cell? W _ hc⟩
end Go.Proofs.YtjhkfjbgdaomeaaGreatDoor
