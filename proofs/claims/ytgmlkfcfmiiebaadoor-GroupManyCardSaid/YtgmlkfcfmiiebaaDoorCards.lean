/-
  DERIVED. GIVEN WITH THE SEED: THE CARDS: each row of YtgmlkfcfmiiebaaDoorRows.lean that lists a variable, with what it lists TIED to the program's text (the seventh form; the later family's looks); each row that meets fmt, with fmt's text TOLD by the authors' own Lean function (tested against real Go, not proved from fmt's source: count such statements apart). THE CARD IS WHAT COUNTS. Prove the row's statement (the work); the ties are given (YtgmlkfcfmiiebaaDoorTie.lean); close each card by the builder's one call (the guide's Derived/Test/ToyasCard.lean, 'card_holds'). Laid BY PROGRAM, IN A SANDBOX (cutbox-door.mjs). By AI agents, Wed Nov 11 2026. No macro, syntax, notation, axiom, sorry.
-/
import Derived.Test.YtgmlkfcfmiiebaaDoorRows
import GoSem.ClaimSeven
namespace Go.Proofs.YtgmlkfcfmiiebaaDoor
namespace Rows

/-- THE TIED CARD OF 'incipitlaw12.GroupMany'. -/
def groupManyCard : Claim7 := { stood := { row := groupManyRow, standIns := [], harness := (true, "2c0626d9ac253920a7a3fe8131f670c48cc6dc4879503bbf0e3fc39c2ef43e1d"), looks := true }, kinds := [], alts := [], laidByText := true, laidKinds := [.data, .data, .data, .data, .sentinel, .sentinel, .listed, .data, .pinned], laidTests := true, laidLooks := .later }
def GroupManyCardSaid : Prop := Claim7.holds Tryd.pinned (.plain (OpenSpec.ofChange groupManySpec)) groupManyCard

/-- THE SECOND FORM's CARD OF 'incipitlaw12.GroupMany'. -/
def groupManyUptoCard : Claim7 := { stood := { row := groupManyUptoRow, standIns := [], harness := (true, "2c0626d9ac253920a7a3fe8131f670c48cc6dc4879503bbf0e3fc39c2ef43e1d"), looks := true }, kinds := [], alts := [], laidByText := true, laidKinds := [.data, .data, .data, .data, .sentinel, .sentinel, .listed, .data, .pinned], laidTests := true, laidLooks := .later }
def GroupManyUptoCardSaid : Prop := Claim7.holds Tryd.pinned (.plain (OpenSpec.upto groupManySpec)) groupManyUptoCard
end Rows
end Go.Proofs.YtgmlkfcfmiiebaaDoor
