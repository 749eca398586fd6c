/-
  DERIVED. GIVEN WITH THE SEED: THE CARDS: each row of YtjhkfjbgdaomeaaGreatDoorRows.lean that lists a variable, with what it lists TIED to the program's text (the seventh form; the later family's looks); each row that meets fmt, with fmt's text TOLD by the authors' own Lean function (tested against real Go, not proved from fmt's source: count such statements apart). THE CARD IS WHAT COUNTS. Prove the row's statement (the work); the ties are given (YtjhkfjbgdaomeaaGreatDoorTie.lean); close each card by the builder's one call (the guide's Derived/Test/ToyasCard.lean, 'card_holds'). Laid BY PROGRAM, IN A SANDBOX (cutbox-door.mjs). By AI agents, Wed Nov 11 2026. No macro, syntax, notation, axiom, sorry.
-/
import Derived.Test.YtjhkfjbgdaomeaaGreatDoorRows
import GoSem.ClaimSeven
namespace Go.Proofs.YtjhkfjbgdaomeaaGreatDoor
namespace Rows

/-- THE TIED CARD OF 'incipitlaw13.WalReplay'. -/
def walReplayCard : Claim7 := { stood := { row := walReplayRow, standIns := [], harness := (true, "b9ff414276c5d897c33f01ab347abee9c08bb2240d8f6e42902f42f8c9d946af"), looks := true }, kinds := [], alts := [], laidByText := true, laidKinds := [.data, .data, .data, .data, .data, .sentinel, .sentinel, .listed, .data, .pinned], laidTests := true, laidLooks := .later }
def WalReplayCardSaid : Prop := Claim7.holds Tryz.pinned (.plain (OpenSpec.ofChange walReplaySpec)) walReplayCard

/-- THE TIED CARD OF 'incipitlaw13.WalNone'. -/
def walNoneCard : Claim7 := { stood := { row := walNoneRow, standIns := [], harness := (true, "b9ff414276c5d897c33f01ab347abee9c08bb2240d8f6e42902f42f8c9d946af"), looks := true }, kinds := [], alts := [], laidByText := true, laidKinds := [.data, .data, .data, .data, .data, .sentinel, .sentinel, .listed, .data, .pinned], laidTests := true, laidLooks := .later }
def WalNoneCardSaid : Prop := Claim7.holds Tryz.pinned (.plain (OpenSpec.ofChange walNoneSpec)) walNoneCard

/-- THE TIED CARD OF 'incipitlaw13.WalMany'. -/
def walManyCard : Claim7 := { stood := { row := walManyRow, standIns := [], harness := (true, "b9ff414276c5d897c33f01ab347abee9c08bb2240d8f6e42902f42f8c9d946af"), looks := true }, kinds := [], alts := [], laidByText := true, laidKinds := [.data, .data, .data, .data, .data, .sentinel, .sentinel, .listed, .data, .pinned], laidTests := true, laidLooks := .later }
def WalManyCardSaid : Prop := Claim7.holds Tryz.pinned (.plain (OpenSpec.ofChange walManySpec)) walManyCard

/-- THE TIED CARD OF 'incipitlaw13.WalNames'. -/
def walNamesCard : Claim7 := { stood := { row := walNamesRow, standIns := [], harness := (true, "b9ff414276c5d897c33f01ab347abee9c08bb2240d8f6e42902f42f8c9d946af"), looks := true }, kinds := [], alts := [], laidByText := true, laidKinds := [.data, .data, .data, .data, .data, .sentinel, .sentinel, .listed, .data, .pinned], laidTests := true, laidLooks := .later }
def WalNamesCardSaid : Prop := Claim7.holds Tryz.pinned (.plain (OpenSpec.ofChange walNamesSpec)) walNamesCard

/-- THE SECOND FORM's CARD OF 'incipitlaw13.WalReplay'. -/
def walReplayUptoCard : Claim7 := { stood := { row := walReplayUptoRow, standIns := [], harness := (true, "b9ff414276c5d897c33f01ab347abee9c08bb2240d8f6e42902f42f8c9d946af"), looks := true }, kinds := [], alts := [], laidByText := true, laidKinds := [.data, .data, .data, .data, .data, .sentinel, .sentinel, .listed, .data, .pinned], laidTests := true, laidLooks := .later }
def WalReplayUptoCardSaid : Prop := Claim7.holds Tryz.pinned (.plain (OpenSpec.upto walReplaySpec)) walReplayUptoCard

/-- THE SECOND FORM's CARD OF 'incipitlaw13.WalNone'. -/
def walNoneUptoCard : Claim7 := { stood := { row := walNoneUptoRow, standIns := [], harness := (true, "b9ff414276c5d897c33f01ab347abee9c08bb2240d8f6e42902f42f8c9d946af"), looks := true }, kinds := [], alts := [], laidByText := true, laidKinds := [.data, .data, .data, .data, .data, .sentinel, .sentinel, .listed, .data, .pinned], laidTests := true, laidLooks := .later }
def WalNoneUptoCardSaid : Prop := Claim7.holds Tryz.pinned (.plain (OpenSpec.upto walNoneSpec)) walNoneUptoCard

/-- THE SECOND FORM's CARD OF 'incipitlaw13.WalMany'. -/
def walManyUptoCard : Claim7 := { stood := { row := walManyUptoRow, standIns := [], harness := (true, "b9ff414276c5d897c33f01ab347abee9c08bb2240d8f6e42902f42f8c9d946af"), looks := true }, kinds := [], alts := [], laidByText := true, laidKinds := [.data, .data, .data, .data, .data, .sentinel, .sentinel, .listed, .data, .pinned], laidTests := true, laidLooks := .later }
def WalManyUptoCardSaid : Prop := Claim7.holds Tryz.pinned (.plain (OpenSpec.upto walManySpec)) walManyUptoCard

/-- THE SECOND FORM's CARD OF 'incipitlaw13.WalNames'. -/
def walNamesUptoCard : Claim7 := { stood := { row := walNamesUptoRow, standIns := [], harness := (true, "b9ff414276c5d897c33f01ab347abee9c08bb2240d8f6e42902f42f8c9d946af"), looks := true }, kinds := [], alts := [], laidByText := true, laidKinds := [.data, .data, .data, .data, .data, .sentinel, .sentinel, .listed, .data, .pinned], laidTests := true, laidLooks := .later }
def WalNamesUptoCardSaid : Prop := Claim7.holds Tryz.pinned (.plain (OpenSpec.upto walNamesSpec)) walNamesUptoCard
end Rows
end Go.Proofs.YtjhkfjbgdaomeaaGreatDoor
