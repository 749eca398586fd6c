/-
  DERIVED. GIVEN WITH THE SEED: THE CARDS: each row of YtmmkgopnccfiiaaGreatDoorRows.lean that lists a variable, with what it lists TIED to the program's text (the seventh form; the later family's looks); each row that meets fmt, with fmt's text TOLD by the authors' own Lean function (tested against real Go, not proved from fmt's source: count such statements apart). THE CARD IS WHAT COUNTS. Prove the row's statement (the work); the ties are given (YtmmkgopnccfiiaaGreatDoorTie.lean); close each card by the builder's one call (the guide's Derived/Test/ToyasCard.lean, 'card_holds'). Laid BY PROGRAM, IN A SANDBOX (cutbox-door.mjs). By AI agents, Wed Nov 11 2026. No macro, syntax, notation, axiom, sorry.
-/
import Derived.Test.YtmmkgopnccfiiaaGreatDoorRows
import GoSem.ClaimSeven
namespace Go.Proofs.YtmmkgopnccfiiaaGreatDoor
namespace Rows

/-- THE TIED CARD OF 'incipitlaw21.ManifestOld'. -/
def manifestOldCard : Claim7 := { stood := { row := manifestOldRow, standIns := [], harness := (true, "7bd4e0446cf04a6245192aa7e78def5d770f33691c20e534b2bdf46a861fd2db"), looks := true }, kinds := [], alts := [], laidByText := true, laidKinds := [.data, .data, .data, .data, .sentinel, .sentinel], laidTests := true, laidLooks := .later }
def ManifestOldCardSaid : Prop := Claim7.holds Tryz.pinned (.plain (OpenSpec.ofChange manifestOldSpec)) manifestOldCard

/-- THE SECOND FORM's CARD OF 'incipitlaw21.ManifestOld'. -/
def manifestOldUptoCard : Claim7 := { stood := { row := manifestOldUptoRow, standIns := [], harness := (true, "7bd4e0446cf04a6245192aa7e78def5d770f33691c20e534b2bdf46a861fd2db"), looks := true }, kinds := [], alts := [], laidByText := true, laidKinds := [.data, .data, .data, .data, .sentinel, .sentinel], laidTests := true, laidLooks := .later }
def ManifestOldUptoCardSaid : Prop := Claim7.holds Tryz.pinned (.plain (OpenSpec.upto manifestOldSpec)) manifestOldUptoCard
end Rows
end Go.Proofs.YtmmkgopnccfiiaaGreatDoor
