/-
  DERIVED. GIVEN WITH THE SEED: THE CARDS: each row of YtdnohjhknhekhaaDoorRows.lean that lists a variable, with what it lists TIED to the program's text (the seventh form; the later family's looks); each row that meets fmt, with fmt's text TOLD by the authors' own Lean function (tested against real Go, not proved from fmt's source: count such statements apart). THE CARD IS WHAT COUNTS. Prove the row's statement (the work); the ties are given (YtdnohjhknhekhaaDoorTie.lean); close each card by the builder's one call (the guide's Derived/Test/ToyasCard.lean, 'card_holds'). Laid BY PROGRAM, IN A SANDBOX (cutbox-door.mjs). By AI agents, Wed Nov 11 2026. No macro, syntax, notation, axiom, sorry.
-/
import Derived.Test.YtdnohjhknhekhaaDoorRows
import GoSem.ClaimSeven
namespace Go.Proofs.YtdnohjhknhekhaaDoor
namespace Rows

/-- THE TIED CARD OF 'incipitlaw11.RecordsLaid'. -/
def recordsLaidCard : Claim7 := { stood := { row := recordsLaidRow, standIns := [], harness := (true, "15e51b9c23a0e99b237ef2498682dabfc942380266d0a0da89c3474b923a455d"), looks := false }, kinds := [], alts := [], laidByText := true, laidKinds := [.data], laidTests := true, laidLooks := .later }
def RecordsLaidCardSaid : Prop := Claim7.holds Tryd.pinned (.plain (OpenSpec.ofChange recordsLaidSpec)) recordsLaidCard

/-- THE TIED CARD OF 'incipitlaw11.RecordsCut'. -/
def recordsCutCard : Claim7 := { stood := { row := recordsCutRow, standIns := [], harness := (true, "15e51b9c23a0e99b237ef2498682dabfc942380266d0a0da89c3474b923a455d"), looks := false }, kinds := [], alts := [], laidByText := true, laidKinds := [.data], laidTests := true, laidLooks := .later }
def RecordsCutCardSaid : Prop := Claim7.holds Tryd.pinned (.plain (OpenSpec.ofChange recordsCutSpec)) recordsCutCard

/-- THE TIED CARD OF 'incipitlaw11.RecordsEdge'. -/
def recordsEdgeCard : Claim7 := { stood := { row := recordsEdgeRow, standIns := [], harness := (true, "15e51b9c23a0e99b237ef2498682dabfc942380266d0a0da89c3474b923a455d"), looks := false }, kinds := [], alts := [], laidByText := true, laidKinds := [.data], laidTests := true, laidLooks := .later }
def RecordsEdgeCardSaid : Prop := Claim7.holds Tryd.pinned (.plain (OpenSpec.ofChange recordsEdgeSpec)) recordsEdgeCard

/-- THE TIED CARD OF 'incipitlaw11.RecordsInside'. -/
def recordsInsideCard : Claim7 := { stood := { row := recordsInsideRow, standIns := [], harness := (true, "15e51b9c23a0e99b237ef2498682dabfc942380266d0a0da89c3474b923a455d"), looks := false }, kinds := [], alts := [], laidByText := true, laidKinds := [.data], laidTests := true, laidLooks := .later }
def RecordsInsideCardSaid : Prop := Claim7.holds Tryd.pinned (.plain (OpenSpec.ofChange recordsInsideSpec)) recordsInsideCard

/-- THE SECOND FORM's CARD OF 'incipitlaw11.RecordsLaid'. -/
def recordsLaidUptoCard : Claim7 := { stood := { row := recordsLaidUptoRow, standIns := [], harness := (true, "15e51b9c23a0e99b237ef2498682dabfc942380266d0a0da89c3474b923a455d"), looks := false }, kinds := [], alts := [], laidByText := true, laidKinds := [.data], laidTests := true, laidLooks := .later }
def RecordsLaidUptoCardSaid : Prop := Claim7.holds Tryd.pinned (.plain (OpenSpec.upto recordsLaidSpec)) recordsLaidUptoCard

/-- THE SECOND FORM's CARD OF 'incipitlaw11.RecordsCut'. -/
def recordsCutUptoCard : Claim7 := { stood := { row := recordsCutUptoRow, standIns := [], harness := (true, "15e51b9c23a0e99b237ef2498682dabfc942380266d0a0da89c3474b923a455d"), looks := false }, kinds := [], alts := [], laidByText := true, laidKinds := [.data], laidTests := true, laidLooks := .later }
def RecordsCutUptoCardSaid : Prop := Claim7.holds Tryd.pinned (.plain (OpenSpec.upto recordsCutSpec)) recordsCutUptoCard

/-- THE SECOND FORM's CARD OF 'incipitlaw11.RecordsEdge'. -/
def recordsEdgeUptoCard : Claim7 := { stood := { row := recordsEdgeUptoRow, standIns := [], harness := (true, "15e51b9c23a0e99b237ef2498682dabfc942380266d0a0da89c3474b923a455d"), looks := false }, kinds := [], alts := [], laidByText := true, laidKinds := [.data], laidTests := true, laidLooks := .later }
def RecordsEdgeUptoCardSaid : Prop := Claim7.holds Tryd.pinned (.plain (OpenSpec.upto recordsEdgeSpec)) recordsEdgeUptoCard

/-- THE SECOND FORM's CARD OF 'incipitlaw11.RecordsInside'. -/
def recordsInsideUptoCard : Claim7 := { stood := { row := recordsInsideUptoRow, standIns := [], harness := (true, "15e51b9c23a0e99b237ef2498682dabfc942380266d0a0da89c3474b923a455d"), looks := false }, kinds := [], alts := [], laidByText := true, laidKinds := [.data], laidTests := true, laidLooks := .later }
def RecordsInsideUptoCardSaid : Prop := Claim7.holds Tryd.pinned (.plain (OpenSpec.upto recordsInsideSpec)) recordsInsideUptoCard
end Rows
end Go.Proofs.YtdnohjhknhekhaaDoor
