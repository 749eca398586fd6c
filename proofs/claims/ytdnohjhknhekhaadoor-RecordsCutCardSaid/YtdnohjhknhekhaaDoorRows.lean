/-
  NARROWER THAN 'FOR EVERY INPUT', by the rows' own cells (each row's printed sentence says how): RecordsLaid: laid · RecordsCut: laid · RecordsEdge: laid · RecordsInside: laid.
  DERIVED. THE GIVEN ROWS OF THIS SEAT. 4 by the template 'for every input the law returns true; each argument reads behind the call as it read before'; 0 by the template 'total and deterministic' (their statements: YtdnohjhknhekhaaDoorTotals.lean).
  GIVEN WITH THE SEED: the statements are not yours to turn. If you find one false, say at which input.
  Laid BY PROGRAM, IN A SANDBOX (cutbox-rows.mjs): the forced cells as the released guide's own fill.sh prints them over the translation 20fda2a4983c0fa3… (all of the seat's roots in one cut). By AI agents, Wed Nov 11 2026. No macro, syntax, notation, axiom, sorry.
-/
import Derived.Test.YtdnohjhknhekhaaDoorChecked
import GoSem.Claim
import GoSem.ClaimJoined
import GoSem.ClaimMapViews
import Derived.JoinedTies
import Derived.KernelRfl
namespace Go.Proofs.YtdnohjhknhekhaaDoor
/- THE CELL 'sum', in the pinned program and in every row, IS THE sha256 OF THE DUMP (.gsa) THAT YtdnohjhknhekhaaDoorProg.lean LOADS. Nothing in Lean hashes anything: it is a label: what it is worth is what the hold of that sum in a sandbox is worth. -/
noncomputable def Tryd.pinned : Pinned := { name := "ytdnohjhknhekhaadoor", sum := "20fda2a4983c0fa340d55aae76056b0f0155854dd548653919ebfd04811244ef", checked := Tryd.checked }
namespace Rows
def none {H : Type} : Left H := { results := [], args := [] }

/- WHAT THE LISTED PACKAGE-LEVEL VARIABLES READ AS WHEN THE CALL BEGINS. Each datum BY PROGRAM (the guide's laid-datum.mjs) off the statement by which the dump's own 'gosem.cut.vars' lays the variable. In a bare row this is a premise. The card (YtdnohjhknhekhaaDoorCards.lean) ties it to the program's text. -/
def laid_incipit_crc_halves {H : Type} : DataW H := .agg [.lit (.int .u32 0), .lit (.int .u32 274646895), .lit (.int .u32 549293790), .lit (.int .u32 820201905), .lit (.int .u32 1098587580), .lit (.int .u32 1361435347), .lit (.int .u32 1640403810), .lit (.int .u32 1905808397), .lit (.int .u32 2197175160), .lit (.int .u32 2460548119), .lit (.int .u32 2722870694), .lit (.int .u32 2987750089), .lit (.int .u32 3280807620), .lit (.int .u32 3553878443), .lit (.int .u32 3811616794), .lit (.int .u32 4084100981)]

/-- 'incipitlaw11.RecordsLaid': WHATEVER THE INPUT: true; the input reads as it did. -/
def recordsLaidSpec : ChangeSpec := { name := "recordsLaid", fn := fun _ => fun
  | [d1, d2] => { results := [.lit (.bool true)], args := [d1, d2] }
  | _ => none }
def recordsLaidRow : OpenClaim := { program := "ytdnohjhknhekhaadoor", sum := "20fda2a4983c0fa340d55aae76056b0f0155854dd548653919ebfd04811244ef", func := "incipit/incipitlaw11.RecordsLaid", spec := "recordsLaid", named := ["incipit/crc.halves"], apart := false, laid := [("incipit/crc.halves", laid_incipit_crc_halves)] }
def RecordsLaidSaid : Prop := recordsLaidRow.holds Tryd.pinned (OpenSpec.ofChange recordsLaidSpec)

/-- ITS FALSE NEIGHBOUR: 'it returns false'. Refute it at one input. -/
def recordsLaidWrong : ChangeSpec := { name := "recordsLaid", fn := fun _ => fun
  | [d1, d2] => { results := [.lit (.bool false)], args := [d1, d2] }
  | _ => none }
def RecordsLaidWrongFalsely : Prop := recordsLaidRow.holds Tryd.pinned (OpenSpec.ofChange recordsLaidWrong)

/-- 'incipitlaw11.RecordsCut': WHATEVER THE INPUT: true; the input reads as it did. -/
def recordsCutSpec : ChangeSpec := { name := "recordsCut", fn := fun _ => fun
  | [d1, d2, d3] => { results := [.lit (.bool true)], args := [d1, d2, d3] }
  | _ => none }
def recordsCutRow : OpenClaim := { program := "ytdnohjhknhekhaadoor", sum := "20fda2a4983c0fa340d55aae76056b0f0155854dd548653919ebfd04811244ef", func := "incipit/incipitlaw11.RecordsCut", spec := "recordsCut", named := ["incipit/crc.halves"], apart := false, laid := [("incipit/crc.halves", laid_incipit_crc_halves)] }
def RecordsCutSaid : Prop := recordsCutRow.holds Tryd.pinned (OpenSpec.ofChange recordsCutSpec)

/-- ITS FALSE NEIGHBOUR: 'it returns false'. Refute it at one input. -/
def recordsCutWrong : ChangeSpec := { name := "recordsCut", fn := fun _ => fun
  | [d1, d2, d3] => { results := [.lit (.bool false)], args := [d1, d2, d3] }
  | _ => none }
def RecordsCutWrongFalsely : Prop := recordsCutRow.holds Tryd.pinned (OpenSpec.ofChange recordsCutWrong)

/-- 'incipitlaw11.RecordsEdge': WHATEVER THE INPUT: true; the input reads as it did. -/
def recordsEdgeSpec : ChangeSpec := { name := "recordsEdge", fn := fun _ => fun
  | [d1, d2] => { results := [.lit (.bool true)], args := [d1, d2] }
  | _ => none }
def recordsEdgeRow : OpenClaim := { program := "ytdnohjhknhekhaadoor", sum := "20fda2a4983c0fa340d55aae76056b0f0155854dd548653919ebfd04811244ef", func := "incipit/incipitlaw11.RecordsEdge", spec := "recordsEdge", named := ["incipit/crc.halves"], apart := false, laid := [("incipit/crc.halves", laid_incipit_crc_halves)] }
def RecordsEdgeSaid : Prop := recordsEdgeRow.holds Tryd.pinned (OpenSpec.ofChange recordsEdgeSpec)

/-- ITS FALSE NEIGHBOUR: 'it returns false'. Refute it at one input. -/
def recordsEdgeWrong : ChangeSpec := { name := "recordsEdge", fn := fun _ => fun
  | [d1, d2] => { results := [.lit (.bool false)], args := [d1, d2] }
  | _ => none }
def RecordsEdgeWrongFalsely : Prop := recordsEdgeRow.holds Tryd.pinned (OpenSpec.ofChange recordsEdgeWrong)

/-- 'incipitlaw11.RecordsInside': WHATEVER THE INPUT: true; the input reads as it did. -/
def recordsInsideSpec : ChangeSpec := { name := "recordsInside", fn := fun _ => fun
  | [d1, d2] => { results := [.lit (.bool true)], args := [d1, d2] }
  | _ => none }
def recordsInsideRow : OpenClaim := { program := "ytdnohjhknhekhaadoor", sum := "20fda2a4983c0fa340d55aae76056b0f0155854dd548653919ebfd04811244ef", func := "incipit/incipitlaw11.RecordsInside", spec := "recordsInside", named := ["incipit/crc.halves"], apart := false, laid := [("incipit/crc.halves", laid_incipit_crc_halves)] }
def RecordsInsideSaid : Prop := recordsInsideRow.holds Tryd.pinned (OpenSpec.ofChange recordsInsideSpec)

/-- ITS FALSE NEIGHBOUR: 'it returns false'. Refute it at one input. -/
def recordsInsideWrong : ChangeSpec := { name := "recordsInside", fn := fun _ => fun
  | [d1, d2] => { results := [.lit (.bool false)], args := [d1, d2] }
  | _ => none }
def RecordsInsideWrongFalsely : Prop := recordsInsideRow.holds Tryd.pinned (OpenSpec.ofChange recordsInsideWrong)

/- THE SECOND FORM. 'bulk': how many values and letters a reading holds, each counted each time it is reached (what is shared counts as often as it is met; a slice's spare places count too). A statement '..UptoSaid' is the law's where the arguments, and the package variables that the reading takes, are together of bulk at most 1048576: NARROWER than '..Said'. Prove '..Said' where nothing that the law and all that it calls make is longer than what came in: it says more and counts as full. Else prove '..UptoSaid'. A law counts once. -/
mutual
def uptoBulk {H : Type} : DataW H → Nat
  | .lit (.string bytes) => bytes.length + 1
  | .lit _ => 1
  | .nil => 1
  | .ptr d => uptoBulk d + 1
  | .slice elems spare => uptoBulkAll elems + uptoBulkAll spare + 1
  | .agg parts => uptoBulkAll parts + 1
  | .iface _ d => uptoBulk d + 1
  | .map entries => uptoBulkEntries entries + 1
  | .held _ => 1
def uptoBulkAll {H : Type} : List (DataW H) → Nat
  | [] => 0
  | d :: r => uptoBulk d + uptoBulkAll r
def uptoBulkEntries {H : Type} : List (Lit × DataW H) → Nat
  | [] => 0
  | x :: r => uptoBulkEntry x + uptoBulkEntries r
def uptoBulkEntry {H : Type} : Lit × DataW H → Nat
  | (.string bytes, d) => bytes.length + uptoBulk d + 1
  | (_, d) => uptoBulk d + 1
 end
def uptoSmall : (H : Type) → List (DataW H) → Bool := fun _ ds => decide (uptoBulkAll ds ≤ 1048576)
def OpenSpec.upto (s : _root_.Go.ChangeSpec) : _root_.Go.OpenSpec := { _root_.Go.OpenSpec.ofChange s with cond := some uptoSmall }

/-- 'incipitlaw11.RecordsLaid', WHERE WHAT IT READS IS OF BULK AT MOST 1048576: true; the input reads as it did. -/
def recordsLaidUptoRow : OpenClaim := { program := "ytdnohjhknhekhaadoor", sum := "20fda2a4983c0fa340d55aae76056b0f0155854dd548653919ebfd04811244ef", func := "incipit/incipitlaw11.RecordsLaid", spec := "recordsLaid", named := ["incipit/crc.halves"], apart := false, laid := [("incipit/crc.halves", laid_incipit_crc_halves)], narrowed := true }
def RecordsLaidUptoSaid : Prop := recordsLaidUptoRow.holds Tryd.pinned (OpenSpec.upto recordsLaidSpec)

/-- 'incipitlaw11.RecordsCut', WHERE WHAT IT READS IS OF BULK AT MOST 1048576: true; the input reads as it did. -/
def recordsCutUptoRow : OpenClaim := { program := "ytdnohjhknhekhaadoor", sum := "20fda2a4983c0fa340d55aae76056b0f0155854dd548653919ebfd04811244ef", func := "incipit/incipitlaw11.RecordsCut", spec := "recordsCut", named := ["incipit/crc.halves"], apart := false, laid := [("incipit/crc.halves", laid_incipit_crc_halves)], narrowed := true }
def RecordsCutUptoSaid : Prop := recordsCutUptoRow.holds Tryd.pinned (OpenSpec.upto recordsCutSpec)

/-- 'incipitlaw11.RecordsEdge', WHERE WHAT IT READS IS OF BULK AT MOST 1048576: true; the input reads as it did. -/
def recordsEdgeUptoRow : OpenClaim := { program := "ytdnohjhknhekhaadoor", sum := "20fda2a4983c0fa340d55aae76056b0f0155854dd548653919ebfd04811244ef", func := "incipit/incipitlaw11.RecordsEdge", spec := "recordsEdge", named := ["incipit/crc.halves"], apart := false, laid := [("incipit/crc.halves", laid_incipit_crc_halves)], narrowed := true }
def RecordsEdgeUptoSaid : Prop := recordsEdgeUptoRow.holds Tryd.pinned (OpenSpec.upto recordsEdgeSpec)

/-- 'incipitlaw11.RecordsInside', WHERE WHAT IT READS IS OF BULK AT MOST 1048576: true; the input reads as it did. -/
def recordsInsideUptoRow : OpenClaim := { program := "ytdnohjhknhekhaadoor", sum := "20fda2a4983c0fa340d55aae76056b0f0155854dd548653919ebfd04811244ef", func := "incipit/incipitlaw11.RecordsInside", spec := "recordsInside", named := ["incipit/crc.halves"], apart := false, laid := [("incipit/crc.halves", laid_incipit_crc_halves)], narrowed := true }
def RecordsInsideUptoSaid : Prop := recordsInsideUptoRow.holds Tryd.pinned (OpenSpec.upto recordsInsideSpec)

end Rows
end Go.Proofs.YtdnohjhknhekhaaDoor
