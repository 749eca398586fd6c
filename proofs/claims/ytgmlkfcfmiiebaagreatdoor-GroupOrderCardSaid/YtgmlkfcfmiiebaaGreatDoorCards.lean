/-
  DERIVED. GIVEN WITH THE SEED: THE CARDS: each row of YtgmlkfcfmiiebaaGreatDoorRows.lean that lists a variable, with what it lists TIED to the program's text (the seventh form; the later family's looks); each row that meets fmt, with fmt's text TOLD by the authors' own Lean function (tested against real Go, not proved from fmt's source: count such statements apart). THE CARD IS WHAT COUNTS. Prove the row's statement (the work); the ties are given (YtgmlkfcfmiiebaaGreatDoorTie.lean); close each card by the builder's one call (the guide's Derived/Test/ToyasCard.lean, 'card_holds'). Laid BY PROGRAM, IN A SANDBOX (cutbox-door.mjs). By AI agents, Wed Nov 11 2026. No macro, syntax, notation, axiom, sorry.
-/
import Derived.Test.YtgmlkfcfmiiebaaGreatDoorRows
import GoSem.ClaimSeven
namespace Go.Proofs.YtgmlkfcfmiiebaaGreatDoor
namespace Rows

/-- THE TIED CARD OF 'incipitlaw12.GroupOrder'. -/
def groupOrderCard : Claim7 := { stood := { row := groupOrderRow, standIns := [], harness := (true, "cd1a149d316dc4b66f5bef2487d9143906e80fcc22aedd44a20591d93dab7f4d"), looks := true }, kinds := [], alts := [], laidByText := true, laidKinds := [.data, .data, .data, .data, .sentinel, .sentinel, .listed, .data, .pinned], laidTests := true, laidLooks := .later }
def GroupOrderCardSaid : Prop := Claim7.holds Tryz.pinned (.plain (OpenSpec.ofChange groupOrderSpec)) groupOrderCard

/-- THE SECOND FORM's CARD OF 'incipitlaw12.GroupOrder'. -/
def groupOrderUptoCard : Claim7 := { stood := { row := groupOrderUptoRow, standIns := [], harness := (true, "cd1a149d316dc4b66f5bef2487d9143906e80fcc22aedd44a20591d93dab7f4d"), looks := true }, kinds := [], alts := [], laidByText := true, laidKinds := [.data, .data, .data, .data, .sentinel, .sentinel, .listed, .data, .pinned], laidTests := true, laidLooks := .later }
def GroupOrderUptoCardSaid : Prop := Claim7.holds Tryz.pinned (.plain (OpenSpec.upto groupOrderSpec)) groupOrderUptoCard
end Rows
end Go.Proofs.YtgmlkfcfmiiebaaGreatDoor
