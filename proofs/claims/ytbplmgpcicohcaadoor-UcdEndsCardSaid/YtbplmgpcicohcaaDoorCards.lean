/-
  DERIVED. GIVEN WITH THE SEED: THE CARDS: each row of YtbplmgpcicohcaaDoorRows.lean that lists a variable, with what it lists TIED to the program's text (the seventh form; the later family's looks); each row that meets fmt, with fmt's text TOLD by the authors' own Lean function (tested against real Go, not proved from fmt's source: count such statements apart). THE CARD IS WHAT COUNTS. Prove the row's statement (the work); the ties are given (YtbplmgpcicohcaaDoorTie.lean); close each card by the builder's one call (the guide's Derived/Test/ToyasCard.lean, 'card_holds'). Laid BY PROGRAM, IN A SANDBOX (cutbox-door.mjs). By AI agents, Wed Nov 11 2026. No macro, syntax, notation, axiom, sorry.
-/
import Derived.Test.YtbplmgpcicohcaaDoorRows
import GoSem.ClaimSeven
namespace Go.Proofs.YtbplmgpcicohcaaDoor
namespace Rows

/-- THE TIED CARD OF 'incipitlaw2.UcdAll'. -/
def ucdAllCard : Claim7 := { stood := { row := ucdAllRow, standIns := [], harness := (true, "5d3d091057c4d5b08d3e1f027948ba62da1a0968ea1e00f91c10ade145fce758"), looks := true }, kinds := [], alts := [], laidByText := true, laidKinds := [.data, .data, .data, .data, .sentinel, .sentinel, .listed, .data, .pinned], laidTests := true, laidLooks := .later }
def UcdAllCardSaid : Prop := Claim7.holds Tryd.pinned (.plain (OpenSpec.ofChange ucdAllSpec)) ucdAllCard

/-- THE TIED CARD OF 'incipitlaw2.UcdEnds'. -/
def ucdEndsCard : Claim7 := { stood := { row := ucdEndsRow, standIns := [], harness := (true, "5d3d091057c4d5b08d3e1f027948ba62da1a0968ea1e00f91c10ade145fce758"), looks := true }, kinds := [], alts := [], laidByText := true, laidKinds := [.data, .data, .data, .data, .sentinel, .sentinel, .listed, .data, .pinned], laidTests := true, laidLooks := .later }
def UcdEndsCardSaid : Prop := Claim7.holds Tryd.pinned (.plain (OpenSpec.ofChange ucdEndsSpec)) ucdEndsCard

/-- THE TIED CARD OF 'incipitlaw2.UcdBlock'. -/
def ucdBlockCard : Claim7 := { stood := { row := ucdBlockRow, standIns := [], harness := (true, "5d3d091057c4d5b08d3e1f027948ba62da1a0968ea1e00f91c10ade145fce758"), looks := true }, kinds := [], alts := [], laidByText := true, laidKinds := [.data, .data, .data, .data, .sentinel, .sentinel, .listed, .data, .pinned], laidTests := true, laidLooks := .later }
def UcdBlockCardSaid : Prop := Claim7.holds Tryd.pinned (.plain (OpenSpec.ofChange ucdBlockSpec)) ucdBlockCard

/-- THE SECOND FORM's CARD OF 'incipitlaw2.UcdAll'. -/
def ucdAllUptoCard : Claim7 := { stood := { row := ucdAllUptoRow, standIns := [], harness := (true, "5d3d091057c4d5b08d3e1f027948ba62da1a0968ea1e00f91c10ade145fce758"), looks := true }, kinds := [], alts := [], laidByText := true, laidKinds := [.data, .data, .data, .data, .sentinel, .sentinel, .listed, .data, .pinned], laidTests := true, laidLooks := .later }
def UcdAllUptoCardSaid : Prop := Claim7.holds Tryd.pinned (.plain (OpenSpec.upto ucdAllSpec)) ucdAllUptoCard

/-- THE SECOND FORM's CARD OF 'incipitlaw2.UcdEnds'. -/
def ucdEndsUptoCard : Claim7 := { stood := { row := ucdEndsUptoRow, standIns := [], harness := (true, "5d3d091057c4d5b08d3e1f027948ba62da1a0968ea1e00f91c10ade145fce758"), looks := true }, kinds := [], alts := [], laidByText := true, laidKinds := [.data, .data, .data, .data, .sentinel, .sentinel, .listed, .data, .pinned], laidTests := true, laidLooks := .later }
def UcdEndsUptoCardSaid : Prop := Claim7.holds Tryd.pinned (.plain (OpenSpec.upto ucdEndsSpec)) ucdEndsUptoCard

/-- THE SECOND FORM's CARD OF 'incipitlaw2.UcdBlock'. -/
def ucdBlockUptoCard : Claim7 := { stood := { row := ucdBlockUptoRow, standIns := [], harness := (true, "5d3d091057c4d5b08d3e1f027948ba62da1a0968ea1e00f91c10ade145fce758"), looks := true }, kinds := [], alts := [], laidByText := true, laidKinds := [.data, .data, .data, .data, .sentinel, .sentinel, .listed, .data, .pinned], laidTests := true, laidLooks := .later }
def UcdBlockUptoCardSaid : Prop := Claim7.holds Tryd.pinned (.plain (OpenSpec.upto ucdBlockSpec)) ucdBlockUptoCard
end Rows
end Go.Proofs.YtbplmgpcicohcaaDoor
