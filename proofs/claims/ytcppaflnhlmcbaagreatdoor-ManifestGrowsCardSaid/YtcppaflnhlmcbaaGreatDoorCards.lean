/-
  DERIVED. GIVEN WITH THE SEED: THE CARDS: each row of YtcppaflnhlmcbaaGreatDoorRows.lean that lists a variable, with what it lists TIED to the program's text (the seventh form; the later family's looks); each row that meets fmt, with fmt's text TOLD by the authors' own Lean function (tested against real Go, not proved from fmt's source: count such statements apart). THE CARD IS WHAT COUNTS. Prove the row's statement (the work); the ties are given (YtcppaflnhlmcbaaGreatDoorTie.lean); close each card by the builder's one call (the guide's Derived/Test/ToyasCard.lean, 'card_holds'). Laid BY PROGRAM, IN A SANDBOX (cutbox-door.mjs). By AI agents, Wed Nov 11 2026. No macro, syntax, notation, axiom, sorry.
-/
import Derived.Test.YtcppaflnhlmcbaaGreatDoorRows
import GoSem.ClaimSeven
namespace Go.Proofs.YtcppaflnhlmcbaaGreatDoor
namespace Rows

/-- THE TIED CARD OF 'incipitlaw21.ManifestAll'. -/
def manifestAllCard : Claim7 := { stood := { row := manifestAllRow, standIns := [], harness := (true, "aff1f7f348f737bdb73aa770953589b9e8f74a4c5d635447435f54ac6ae6c0c8"), looks := true }, kinds := [], alts := [], laidByText := true, laidKinds := [.data, .data, .data, .data], laidTests := true, laidLooks := .later }
def ManifestAllCardSaid : Prop := Claim7.holds Tryz.pinned (.plain (OpenSpec.ofChange manifestAllSpec)) manifestAllCard

/-- THE TIED CARD OF 'incipitlaw21.ManifestCrash'. -/
def manifestCrashCard : Claim7 := { stood := { row := manifestCrashRow, standIns := [], harness := (true, "aff1f7f348f737bdb73aa770953589b9e8f74a4c5d635447435f54ac6ae6c0c8"), looks := true }, kinds := [], alts := [], laidByText := true, laidKinds := [.data, .data, .data, .data], laidTests := true, laidLooks := .later }
def ManifestCrashCardSaid : Prop := Claim7.holds Tryz.pinned (.plain (OpenSpec.ofChange manifestCrashSpec)) manifestCrashCard

/-- THE TIED CARD OF 'incipitlaw21.ManifestOld'. -/
def manifestOldCard : Claim7 := { stood := { row := manifestOldRow, standIns := [], harness := (true, "aff1f7f348f737bdb73aa770953589b9e8f74a4c5d635447435f54ac6ae6c0c8"), looks := true }, kinds := [], alts := [], laidByText := true, laidKinds := [.data, .data, .data, .data, .sentinel, .sentinel], laidTests := true, laidLooks := .later }
def ManifestOldCardSaid : Prop := Claim7.holds Tryz.pinned (.plain (OpenSpec.ofChange manifestOldSpec)) manifestOldCard

/-- THE TIED CARD OF 'incipitlaw21.ManifestGrows'. -/
def manifestGrowsCard : Claim7 := { stood := { row := manifestGrowsRow, standIns := [], harness := (true, "aff1f7f348f737bdb73aa770953589b9e8f74a4c5d635447435f54ac6ae6c0c8"), looks := true }, kinds := [], alts := [], laidByText := true, laidKinds := [.data, .data, .data, .data, .sentinel, .sentinel], laidTests := true, laidLooks := .later }
def ManifestGrowsCardSaid : Prop := Claim7.holds Tryz.pinned (.plain (OpenSpec.ofChange manifestGrowsSpec)) manifestGrowsCard

/-- THE TIED CARD OF 'incipitlaw21.ManifestNone'. -/
def manifestNoneCard : Claim7 := { stood := { row := manifestNoneRow, standIns := [], harness := (true, "aff1f7f348f737bdb73aa770953589b9e8f74a4c5d635447435f54ac6ae6c0c8"), looks := true }, kinds := [], alts := [], laidByText := true, laidKinds := [.data, .data, .data, .data, .sentinel, .sentinel], laidTests := true, laidLooks := .later }
def ManifestNoneCardSaid : Prop := Claim7.holds Tryz.pinned (.plain (OpenSpec.ofChange manifestNoneSpec)) manifestNoneCard

/-- THE SECOND FORM's CARD OF 'incipitlaw21.ManifestAll'. -/
def manifestAllUptoCard : Claim7 := { stood := { row := manifestAllUptoRow, standIns := [], harness := (true, "aff1f7f348f737bdb73aa770953589b9e8f74a4c5d635447435f54ac6ae6c0c8"), looks := true }, kinds := [], alts := [], laidByText := true, laidKinds := [.data, .data, .data, .data], laidTests := true, laidLooks := .later }
def ManifestAllUptoCardSaid : Prop := Claim7.holds Tryz.pinned (.plain (OpenSpec.upto manifestAllSpec)) manifestAllUptoCard

/-- THE SECOND FORM's CARD OF 'incipitlaw21.ManifestCrash'. -/
def manifestCrashUptoCard : Claim7 := { stood := { row := manifestCrashUptoRow, standIns := [], harness := (true, "aff1f7f348f737bdb73aa770953589b9e8f74a4c5d635447435f54ac6ae6c0c8"), looks := true }, kinds := [], alts := [], laidByText := true, laidKinds := [.data, .data, .data, .data], laidTests := true, laidLooks := .later }
def ManifestCrashUptoCardSaid : Prop := Claim7.holds Tryz.pinned (.plain (OpenSpec.upto manifestCrashSpec)) manifestCrashUptoCard

/-- THE SECOND FORM's CARD OF 'incipitlaw21.ManifestOld'. -/
def manifestOldUptoCard : Claim7 := { stood := { row := manifestOldUptoRow, standIns := [], harness := (true, "aff1f7f348f737bdb73aa770953589b9e8f74a4c5d635447435f54ac6ae6c0c8"), looks := true }, kinds := [], alts := [], laidByText := true, laidKinds := [.data, .data, .data, .data, .sentinel, .sentinel], laidTests := true, laidLooks := .later }
def ManifestOldUptoCardSaid : Prop := Claim7.holds Tryz.pinned (.plain (OpenSpec.upto manifestOldSpec)) manifestOldUptoCard

/-- THE SECOND FORM's CARD OF 'incipitlaw21.ManifestGrows'. -/
def manifestGrowsUptoCard : Claim7 := { stood := { row := manifestGrowsUptoRow, standIns := [], harness := (true, "aff1f7f348f737bdb73aa770953589b9e8f74a4c5d635447435f54ac6ae6c0c8"), looks := true }, kinds := [], alts := [], laidByText := true, laidKinds := [.data, .data, .data, .data, .sentinel, .sentinel], laidTests := true, laidLooks := .later }
def ManifestGrowsUptoCardSaid : Prop := Claim7.holds Tryz.pinned (.plain (OpenSpec.upto manifestGrowsSpec)) manifestGrowsUptoCard

/-- THE SECOND FORM's CARD OF 'incipitlaw21.ManifestNone'. -/
def manifestNoneUptoCard : Claim7 := { stood := { row := manifestNoneUptoRow, standIns := [], harness := (true, "aff1f7f348f737bdb73aa770953589b9e8f74a4c5d635447435f54ac6ae6c0c8"), looks := true }, kinds := [], alts := [], laidByText := true, laidKinds := [.data, .data, .data, .data, .sentinel, .sentinel], laidTests := true, laidLooks := .later }
def ManifestNoneUptoCardSaid : Prop := Claim7.holds Tryz.pinned (.plain (OpenSpec.upto manifestNoneSpec)) manifestNoneUptoCard
end Rows
end Go.Proofs.YtcppaflnhlmcbaaGreatDoor
