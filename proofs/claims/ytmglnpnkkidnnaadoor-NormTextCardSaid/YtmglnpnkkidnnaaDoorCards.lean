/-
  DERIVED. GIVEN WITH THE SEED: THE CARDS: each row of YtmglnpnkkidnnaaDoorRows.lean that lists a variable, with what it lists TIED to the program's text (the seventh form; the later family's looks); each row that meets fmt, with fmt's text TOLD by the authors' own Lean function (tested against real Go, not proved from fmt's source: count such statements apart). THE CARD IS WHAT COUNTS. Prove the row's statement (the work); the ties are given (YtmglnpnkkidnnaaDoorTie.lean); close each card by the builder's one call (the guide's Derived/Test/ToyasCard.lean, 'card_holds'). Laid BY PROGRAM, IN A SANDBOX (cutbox-door.mjs). By AI agents, Wed Nov 11 2026. No macro, syntax, notation, axiom, sorry.
-/
import Derived.Test.YtmglnpnkkidnnaaDoorRows
import GoSem.ClaimSeven
namespace Go.Proofs.YtmglnpnkkidnnaaDoor
namespace Rows

/-- THE TIED CARD OF 'incipitlaw4.NormChars'. -/
def normCharsCard : Claim7 := { stood := { row := normCharsRow, standIns := [], harness := (true, "9ef50cc71ff355ed242f4cfb276d17886f898af6cdb2322117b0d8d1f2ce6f26"), looks := true }, kinds := [], alts := [], laidByText := true, laidKinds := [.data, .data, .data, .data, .sentinel, .sentinel, .listed, .data, .pinned], laidTests := true, laidLooks := .later }
def NormCharsCardSaid : Prop := Claim7.holds Tryd.pinned (.plain (OpenSpec.ofChange normCharsSpec)) normCharsCard

/-- THE TIED CARD OF 'incipitlaw4.NormText'. -/
def normTextCard : Claim7 := { stood := { row := normTextRow, standIns := [], harness := (true, "9ef50cc71ff355ed242f4cfb276d17886f898af6cdb2322117b0d8d1f2ce6f26"), looks := true }, kinds := [], alts := [], laidByText := true, laidKinds := [.data, .data, .data, .data, .sentinel, .sentinel, .listed, .data, .pinned], laidTests := true, laidLooks := .later }
def NormTextCardSaid : Prop := Claim7.holds Tryd.pinned (.plain (OpenSpec.ofChange normTextSpec)) normTextCard

/-- THE TIED CARD OF 'incipitlaw4.NormOrder'. -/
def normOrderCard : Claim7 := { stood := { row := normOrderRow, standIns := [], harness := (true, "9ef50cc71ff355ed242f4cfb276d17886f898af6cdb2322117b0d8d1f2ce6f26"), looks := true }, kinds := [], alts := [], laidByText := true, laidKinds := [.data, .data, .data, .data, .sentinel, .sentinel, .listed, .data, .pinned], laidTests := true, laidLooks := .later }
def NormOrderCardSaid : Prop := Claim7.holds Tryd.pinned (.plain (OpenSpec.ofChange normOrderSpec)) normOrderCard

/-- THE TIED CARD OF 'incipitlaw4.NormJoin'. -/
def normJoinCard : Claim7 := { stood := { row := normJoinRow, standIns := [], harness := (true, "9ef50cc71ff355ed242f4cfb276d17886f898af6cdb2322117b0d8d1f2ce6f26"), looks := true }, kinds := [], alts := [], laidByText := true, laidKinds := [.data, .data, .data, .data, .sentinel, .sentinel, .listed, .data, .pinned], laidTests := true, laidLooks := .later }
def NormJoinCardSaid : Prop := Claim7.holds Tryd.pinned (.plain (OpenSpec.ofChange normJoinSpec)) normJoinCard

/-- THE TIED CARD OF 'incipitlaw4.NormPlain'. -/
def normPlainCard : Claim7 := { stood := { row := normPlainRow, standIns := [], harness := (true, "9ef50cc71ff355ed242f4cfb276d17886f898af6cdb2322117b0d8d1f2ce6f26"), looks := true }, kinds := [], alts := [], laidByText := true, laidKinds := [.data, .data, .data, .data, .sentinel, .sentinel, .listed, .data, .pinned], laidTests := true, laidLooks := .later }
def NormPlainCardSaid : Prop := Claim7.holds Tryd.pinned (.plain (OpenSpec.ofChange normPlainSpec)) normPlainCard

/-- THE TIED CARD OF 'incipitlaw4.NormMarks'. -/
def normMarksCard : Claim7 := { stood := { row := normMarksRow, standIns := [], harness := (true, "9ef50cc71ff355ed242f4cfb276d17886f898af6cdb2322117b0d8d1f2ce6f26"), looks := true }, kinds := [], alts := [], laidByText := true, laidKinds := [.data, .data, .data, .data, .sentinel, .sentinel, .listed, .data, .pinned], laidTests := true, laidLooks := .later }
def NormMarksCardSaid : Prop := Claim7.holds Tryd.pinned (.plain (OpenSpec.ofChange normMarksSpec)) normMarksCard

/-- THE TIED CARD OF 'incipitlaw4.NormSame'. -/
def normSameCard : Claim7 := { stood := { row := normSameRow, standIns := [], harness := (true, "9ef50cc71ff355ed242f4cfb276d17886f898af6cdb2322117b0d8d1f2ce6f26"), looks := true }, kinds := [], alts := [], laidByText := true, laidKinds := [.data, .data, .data, .data, .sentinel, .sentinel, .listed, .data, .pinned], laidTests := true, laidLooks := .later }
def NormSameCardSaid : Prop := Claim7.holds Tryd.pinned (.plain (OpenSpec.ofChange normSameSpec)) normSameCard

/-- THE SECOND FORM's CARD OF 'incipitlaw4.NormChars'. -/
def normCharsUptoCard : Claim7 := { stood := { row := normCharsUptoRow, standIns := [], harness := (true, "9ef50cc71ff355ed242f4cfb276d17886f898af6cdb2322117b0d8d1f2ce6f26"), looks := true }, kinds := [], alts := [], laidByText := true, laidKinds := [.data, .data, .data, .data, .sentinel, .sentinel, .listed, .data, .pinned], laidTests := true, laidLooks := .later }
def NormCharsUptoCardSaid : Prop := Claim7.holds Tryd.pinned (.plain (OpenSpec.upto normCharsSpec)) normCharsUptoCard

/-- THE SECOND FORM's CARD OF 'incipitlaw4.NormText'. -/
def normTextUptoCard : Claim7 := { stood := { row := normTextUptoRow, standIns := [], harness := (true, "9ef50cc71ff355ed242f4cfb276d17886f898af6cdb2322117b0d8d1f2ce6f26"), looks := true }, kinds := [], alts := [], laidByText := true, laidKinds := [.data, .data, .data, .data, .sentinel, .sentinel, .listed, .data, .pinned], laidTests := true, laidLooks := .later }
def NormTextUptoCardSaid : Prop := Claim7.holds Tryd.pinned (.plain (OpenSpec.upto normTextSpec)) normTextUptoCard

/-- THE SECOND FORM's CARD OF 'incipitlaw4.NormOrder'. -/
def normOrderUptoCard : Claim7 := { stood := { row := normOrderUptoRow, standIns := [], harness := (true, "9ef50cc71ff355ed242f4cfb276d17886f898af6cdb2322117b0d8d1f2ce6f26"), looks := true }, kinds := [], alts := [], laidByText := true, laidKinds := [.data, .data, .data, .data, .sentinel, .sentinel, .listed, .data, .pinned], laidTests := true, laidLooks := .later }
def NormOrderUptoCardSaid : Prop := Claim7.holds Tryd.pinned (.plain (OpenSpec.upto normOrderSpec)) normOrderUptoCard

/-- THE SECOND FORM's CARD OF 'incipitlaw4.NormJoin'. -/
def normJoinUptoCard : Claim7 := { stood := { row := normJoinUptoRow, standIns := [], harness := (true, "9ef50cc71ff355ed242f4cfb276d17886f898af6cdb2322117b0d8d1f2ce6f26"), looks := true }, kinds := [], alts := [], laidByText := true, laidKinds := [.data, .data, .data, .data, .sentinel, .sentinel, .listed, .data, .pinned], laidTests := true, laidLooks := .later }
def NormJoinUptoCardSaid : Prop := Claim7.holds Tryd.pinned (.plain (OpenSpec.upto normJoinSpec)) normJoinUptoCard

/-- THE SECOND FORM's CARD OF 'incipitlaw4.NormPlain'. -/
def normPlainUptoCard : Claim7 := { stood := { row := normPlainUptoRow, standIns := [], harness := (true, "9ef50cc71ff355ed242f4cfb276d17886f898af6cdb2322117b0d8d1f2ce6f26"), looks := true }, kinds := [], alts := [], laidByText := true, laidKinds := [.data, .data, .data, .data, .sentinel, .sentinel, .listed, .data, .pinned], laidTests := true, laidLooks := .later }
def NormPlainUptoCardSaid : Prop := Claim7.holds Tryd.pinned (.plain (OpenSpec.upto normPlainSpec)) normPlainUptoCard

/-- THE SECOND FORM's CARD OF 'incipitlaw4.NormMarks'. -/
def normMarksUptoCard : Claim7 := { stood := { row := normMarksUptoRow, standIns := [], harness := (true, "9ef50cc71ff355ed242f4cfb276d17886f898af6cdb2322117b0d8d1f2ce6f26"), looks := true }, kinds := [], alts := [], laidByText := true, laidKinds := [.data, .data, .data, .data, .sentinel, .sentinel, .listed, .data, .pinned], laidTests := true, laidLooks := .later }
def NormMarksUptoCardSaid : Prop := Claim7.holds Tryd.pinned (.plain (OpenSpec.upto normMarksSpec)) normMarksUptoCard

/-- THE SECOND FORM's CARD OF 'incipitlaw4.NormSame'. -/
def normSameUptoCard : Claim7 := { stood := { row := normSameUptoRow, standIns := [], harness := (true, "9ef50cc71ff355ed242f4cfb276d17886f898af6cdb2322117b0d8d1f2ce6f26"), looks := true }, kinds := [], alts := [], laidByText := true, laidKinds := [.data, .data, .data, .data, .sentinel, .sentinel, .listed, .data, .pinned], laidTests := true, laidLooks := .later }
def NormSameUptoCardSaid : Prop := Claim7.holds Tryd.pinned (.plain (OpenSpec.upto normSameSpec)) normSameUptoCard
end Rows
end Go.Proofs.YtmglnpnkkidnnaaDoor
