/-
  DERIVED. GIVEN WITH THE SEED: THE CARDS: each row of YtennpdhnjaemeaaDoorRows.lean that lists a variable, with what it lists TIED to the program's text (the seventh form; the later family's looks); each row that meets fmt, with fmt's text TOLD by the authors' own Lean function (tested against real Go, not proved from fmt's source: count such statements apart). THE CARD IS WHAT COUNTS. Prove the row's statement (the work); the ties are given (YtennpdhnjaemeaaDoorTie.lean); close each card by the builder's one call (the guide's Derived/Test/ToyasCard.lean, 'card_holds'). Laid BY PROGRAM, IN A SANDBOX (cutbox-door.mjs). By AI agents, Wed Nov 11 2026. No macro, syntax, notation, axiom, sorry.
-/
import Derived.Test.YtennpdhnjaemeaaDoorRows
import GoSem.ClaimSeven
namespace Go.Proofs.YtennpdhnjaemeaaDoor
namespace Rows

/-- THE TIED CARD OF 'incipitlaw17.TableAll'. -/
def tableAllCard : Claim7 := { stood := { row := tableAllRow, standIns := [], harness := (true, "87cccf31111735f1ac7a2c8e1487fc37b506c77d4f776c1ba52b124d2ebc0bf7"), looks := false }, kinds := [], alts := [], laidByText := true, laidKinds := [.data], laidTests := true, laidLooks := .later }
def TableAllCardSaid : Prop := Claim7.holds Tryd.pinned (.plain (OpenSpec.ofChange tableAllSpec)) tableAllCard

/-- THE TIED CARD OF 'incipitlaw17.TableRaw'. -/
def tableRawCard : Claim7 := { stood := { row := tableRawRow, standIns := [], harness := (true, "87cccf31111735f1ac7a2c8e1487fc37b506c77d4f776c1ba52b124d2ebc0bf7"), looks := false }, kinds := [], alts := [], laidByText := true, laidKinds := [.data], laidTests := true, laidLooks := .later }
def TableRawCardSaid : Prop := Claim7.holds Tryd.pinned (.plain (OpenSpec.ofChange tableRawSpec)) tableRawCard

/-- THE TIED CARD OF 'incipitlaw17.TableSpoilt'. -/
def tableSpoiltCard : Claim7 := { stood := { row := tableSpoiltRow, standIns := [], harness := (true, "87cccf31111735f1ac7a2c8e1487fc37b506c77d4f776c1ba52b124d2ebc0bf7"), looks := false }, kinds := [], alts := [], laidByText := true, laidKinds := [.data], laidTests := true, laidLooks := .later }
def TableSpoiltCardSaid : Prop := Claim7.holds Tryd.pinned (.plain (OpenSpec.ofChange tableSpoiltSpec)) tableSpoiltCard

/-- THE TIED CARD OF 'incipitlaw17.TableNone'. -/
def tableNoneCard : Claim7 := { stood := { row := tableNoneRow, standIns := [], harness := (true, "87cccf31111735f1ac7a2c8e1487fc37b506c77d4f776c1ba52b124d2ebc0bf7"), looks := false }, kinds := [], alts := [], laidByText := true, laidKinds := [.data], laidTests := true, laidLooks := .later }
def TableNoneCardSaid : Prop := Claim7.holds Tryd.pinned (.plain (OpenSpec.ofChange tableNoneSpec)) tableNoneCard

/-- THE TIED CARD OF 'incipitlaw17.TableMany'. -/
def tableManyCard : Claim7 := { stood := { row := tableManyRow, standIns := [], harness := (true, "87cccf31111735f1ac7a2c8e1487fc37b506c77d4f776c1ba52b124d2ebc0bf7"), looks := false }, kinds := [], alts := [], laidByText := true, laidKinds := [.data], laidTests := true, laidLooks := .later }
def TableManyCardSaid : Prop := Claim7.holds Tryd.pinned (.plain (OpenSpec.ofChange tableManySpec)) tableManyCard

/-- THE TIED CARD OF 'incipitlaw17.TableVersions'. -/
def tableVersionsCard : Claim7 := { stood := { row := tableVersionsRow, standIns := [], harness := (true, "87cccf31111735f1ac7a2c8e1487fc37b506c77d4f776c1ba52b124d2ebc0bf7"), looks := false }, kinds := [], alts := [], laidByText := true, laidKinds := [.data], laidTests := true, laidLooks := .later }
def TableVersionsCardSaid : Prop := Claim7.holds Tryd.pinned (.plain (OpenSpec.ofChange tableVersionsSpec)) tableVersionsCard

/-- THE SECOND FORM's CARD OF 'incipitlaw17.TableAll'. -/
def tableAllUptoCard : Claim7 := { stood := { row := tableAllUptoRow, standIns := [], harness := (true, "87cccf31111735f1ac7a2c8e1487fc37b506c77d4f776c1ba52b124d2ebc0bf7"), looks := false }, kinds := [], alts := [], laidByText := true, laidKinds := [.data], laidTests := true, laidLooks := .later }
def TableAllUptoCardSaid : Prop := Claim7.holds Tryd.pinned (.plain (OpenSpec.upto tableAllSpec)) tableAllUptoCard

/-- THE SECOND FORM's CARD OF 'incipitlaw17.TableRaw'. -/
def tableRawUptoCard : Claim7 := { stood := { row := tableRawUptoRow, standIns := [], harness := (true, "87cccf31111735f1ac7a2c8e1487fc37b506c77d4f776c1ba52b124d2ebc0bf7"), looks := false }, kinds := [], alts := [], laidByText := true, laidKinds := [.data], laidTests := true, laidLooks := .later }
def TableRawUptoCardSaid : Prop := Claim7.holds Tryd.pinned (.plain (OpenSpec.upto tableRawSpec)) tableRawUptoCard

/-- THE SECOND FORM's CARD OF 'incipitlaw17.TableSpoilt'. -/
def tableSpoiltUptoCard : Claim7 := { stood := { row := tableSpoiltUptoRow, standIns := [], harness := (true, "87cccf31111735f1ac7a2c8e1487fc37b506c77d4f776c1ba52b124d2ebc0bf7"), looks := false }, kinds := [], alts := [], laidByText := true, laidKinds := [.data], laidTests := true, laidLooks := .later }
def TableSpoiltUptoCardSaid : Prop := Claim7.holds Tryd.pinned (.plain (OpenSpec.upto tableSpoiltSpec)) tableSpoiltUptoCard

/-- THE SECOND FORM's CARD OF 'incipitlaw17.TableNone'. -/
def tableNoneUptoCard : Claim7 := { stood := { row := tableNoneUptoRow, standIns := [], harness := (true, "87cccf31111735f1ac7a2c8e1487fc37b506c77d4f776c1ba52b124d2ebc0bf7"), looks := false }, kinds := [], alts := [], laidByText := true, laidKinds := [.data], laidTests := true, laidLooks := .later }
def TableNoneUptoCardSaid : Prop := Claim7.holds Tryd.pinned (.plain (OpenSpec.upto tableNoneSpec)) tableNoneUptoCard

/-- THE SECOND FORM's CARD OF 'incipitlaw17.TableMany'. -/
def tableManyUptoCard : Claim7 := { stood := { row := tableManyUptoRow, standIns := [], harness := (true, "87cccf31111735f1ac7a2c8e1487fc37b506c77d4f776c1ba52b124d2ebc0bf7"), looks := false }, kinds := [], alts := [], laidByText := true, laidKinds := [.data], laidTests := true, laidLooks := .later }
def TableManyUptoCardSaid : Prop := Claim7.holds Tryd.pinned (.plain (OpenSpec.upto tableManySpec)) tableManyUptoCard

/-- THE SECOND FORM's CARD OF 'incipitlaw17.TableVersions'. -/
def tableVersionsUptoCard : Claim7 := { stood := { row := tableVersionsUptoRow, standIns := [], harness := (true, "87cccf31111735f1ac7a2c8e1487fc37b506c77d4f776c1ba52b124d2ebc0bf7"), looks := false }, kinds := [], alts := [], laidByText := true, laidKinds := [.data], laidTests := true, laidLooks := .later }
def TableVersionsUptoCardSaid : Prop := Claim7.holds Tryd.pinned (.plain (OpenSpec.upto tableVersionsSpec)) tableVersionsUptoCard
end Rows
end Go.Proofs.YtennpdhnjaemeaaDoor
