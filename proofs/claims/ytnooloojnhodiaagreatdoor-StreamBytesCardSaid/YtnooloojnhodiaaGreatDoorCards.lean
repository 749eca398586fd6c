/-
  DERIVED. GIVEN WITH THE SEED: THE CARDS: each row of YtnooloojnhodiaaGreatDoorRows.lean that lists a variable, with what it lists TIED to the program's text (the seventh form; the later family's looks); each row that meets fmt, with fmt's text TOLD by the authors' own Lean function (tested against real Go, not proved from fmt's source: count such statements apart). THE CARD IS WHAT COUNTS. Prove the row's statement (the work); the ties are given (YtnooloojnhodiaaGreatDoorTie.lean); close each card by the builder's one call (the guide's Derived/Test/ToyasCard.lean, 'card_holds'). Laid BY PROGRAM, IN A SANDBOX (cutbox-door.mjs). By AI agents, Wed Nov 11 2026. No macro, syntax, notation, axiom, sorry.
-/
import Derived.Test.YtnooloojnhodiaaGreatDoorRows
import GoSem.ClaimSeven
namespace Go.Proofs.YtnooloojnhodiaaGreatDoor
namespace Rows

/-- THE TIED CARD OF 'incipitlaw5.StreamAll'. -/
def streamAllCard : Claim7 := { stood := { row := streamAllRow, standIns := [], harness := (true, "af3b0adf487a89dfda3d5dd8f8a3d75548e3e0e1e9d4172347f1cb9dc89b96a7"), looks := true }, kinds := [], alts := [], laidByText := true, laidKinds := [.data, .data, .data, .data, .sentinel, .sentinel, .listed, .data, .pinned], laidTests := true, laidLooks := .later }
def StreamAllCardSaid : Prop := Claim7.holds Tryz.pinned (.plain (OpenSpec.ofChange streamAllSpec)) streamAllCard

/-- THE TIED CARD OF 'incipitlaw5.StreamBytes'. -/
def streamBytesCard : Claim7 := { stood := { row := streamBytesRow, standIns := [], harness := (true, "af3b0adf487a89dfda3d5dd8f8a3d75548e3e0e1e9d4172347f1cb9dc89b96a7"), looks := true }, kinds := [], alts := [], laidByText := true, laidKinds := [.data, .data, .data, .data, .sentinel, .sentinel, .listed, .data, .pinned], laidTests := true, laidLooks := .later }
def StreamBytesCardSaid : Prop := Claim7.holds Tryz.pinned (.plain (OpenSpec.ofChange streamBytesSpec)) streamBytesCard

/-- THE TIED CARD OF 'incipitlaw5.StreamBad'. -/
def streamBadCard : Claim7 := { stood := { row := streamBadRow, standIns := [], harness := (true, "af3b0adf487a89dfda3d5dd8f8a3d75548e3e0e1e9d4172347f1cb9dc89b96a7"), looks := true }, kinds := [], alts := [], laidByText := true, laidKinds := [.data, .data, .data, .data, .sentinel, .sentinel, .listed, .data, .pinned], laidTests := true, laidLooks := .later }
def StreamBadCardSaid : Prop := Claim7.holds Tryz.pinned (.plain (OpenSpec.ofChange streamBadSpec)) streamBadCard

/-- THE SECOND FORM's CARD OF 'incipitlaw5.StreamAll'. -/
def streamAllUptoCard : Claim7 := { stood := { row := streamAllUptoRow, standIns := [], harness := (true, "af3b0adf487a89dfda3d5dd8f8a3d75548e3e0e1e9d4172347f1cb9dc89b96a7"), looks := true }, kinds := [], alts := [], laidByText := true, laidKinds := [.data, .data, .data, .data, .sentinel, .sentinel, .listed, .data, .pinned], laidTests := true, laidLooks := .later }
def StreamAllUptoCardSaid : Prop := Claim7.holds Tryz.pinned (.plain (OpenSpec.upto streamAllSpec)) streamAllUptoCard

/-- THE SECOND FORM's CARD OF 'incipitlaw5.StreamBytes'. -/
def streamBytesUptoCard : Claim7 := { stood := { row := streamBytesUptoRow, standIns := [], harness := (true, "af3b0adf487a89dfda3d5dd8f8a3d75548e3e0e1e9d4172347f1cb9dc89b96a7"), looks := true }, kinds := [], alts := [], laidByText := true, laidKinds := [.data, .data, .data, .data, .sentinel, .sentinel, .listed, .data, .pinned], laidTests := true, laidLooks := .later }
def StreamBytesUptoCardSaid : Prop := Claim7.holds Tryz.pinned (.plain (OpenSpec.upto streamBytesSpec)) streamBytesUptoCard

/-- THE SECOND FORM's CARD OF 'incipitlaw5.StreamBad'. -/
def streamBadUptoCard : Claim7 := { stood := { row := streamBadUptoRow, standIns := [], harness := (true, "af3b0adf487a89dfda3d5dd8f8a3d75548e3e0e1e9d4172347f1cb9dc89b96a7"), looks := true }, kinds := [], alts := [], laidByText := true, laidKinds := [.data, .data, .data, .data, .sentinel, .sentinel, .listed, .data, .pinned], laidTests := true, laidLooks := .later }
def StreamBadUptoCardSaid : Prop := Claim7.holds Tryz.pinned (.plain (OpenSpec.upto streamBadSpec)) streamBadUptoCard
end Rows
end Go.Proofs.YtnooloojnhodiaaGreatDoor
