/-
  DERIVED. GIVEN WITH THE SEED: THE CARDS: each row of YtgcchkjoggmdiaaGreatDoorRows.lean that lists a variable, with what it lists TIED to the program's text (the seventh form; the later family's looks); each row that meets fmt, with fmt's text TOLD by the authors' own Lean function (tested against real Go, not proved from fmt's source: count such statements apart). THE CARD IS WHAT COUNTS. Prove the row's statement (the work); the ties are given (YtgcchkjoggmdiaaGreatDoorTie.lean); close each card by the builder's one call (the guide's Derived/Test/ToyasCard.lean, 'card_holds'). Laid BY PROGRAM, IN A SANDBOX (cutbox-door.mjs). By AI agents, Wed Nov 11 2026. No macro, syntax, notation, axiom, sorry.
-/
import Derived.Test.YtgcchkjoggmdiaaGreatDoorRows
import GoSem.ClaimSeven
namespace Go.Proofs.YtgcchkjoggmdiaaGreatDoor
namespace Rows

/-- THE TIED CARD OF 'incipitlaw6.KeyMake'. -/
def keyMakeCard : Claim7 := { stood := { row := keyMakeRow, standIns := [], harness := (true, "d55673ee14cc6f8e9a3e7dcb6d414a19046e55103372b03ecb24a99efe84245e"), looks := true }, kinds := [], alts := [], laidByText := true, laidKinds := [.data, .data, .data, .data, .sentinel, .sentinel, .listed, .data, .pinned], laidTests := true, laidLooks := .later }
def KeyMakeCardSaid : Prop := Claim7.holds Tryz.pinned (.plain (OpenSpec.ofChange keyMakeSpec)) keyMakeCard

/-- THE SECOND FORM's CARD OF 'incipitlaw6.KeyMake'. -/
def keyMakeUptoCard : Claim7 := { stood := { row := keyMakeUptoRow, standIns := [], harness := (true, "d55673ee14cc6f8e9a3e7dcb6d414a19046e55103372b03ecb24a99efe84245e"), looks := true }, kinds := [], alts := [], laidByText := true, laidKinds := [.data, .data, .data, .data, .sentinel, .sentinel, .listed, .data, .pinned], laidTests := true, laidLooks := .later }
def KeyMakeUptoCardSaid : Prop := Claim7.holds Tryz.pinned (.plain (OpenSpec.upto keyMakeSpec)) keyMakeUptoCard
end Rows
end Go.Proofs.YtgcchkjoggmdiaaGreatDoor
