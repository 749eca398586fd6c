/-
  NARROWER THAN 'FOR EVERY INPUT', by the rows' own cells (each row's printed sentence says how): TableAll: laid · TableRaw: laid · TableSpoilt: laid · TableNone: laid · TableMany: laid · TableVersions: laid.
  DERIVED. THE GIVEN ROWS OF THIS SEAT. 6 by the template 'for every input the law returns true; each argument reads behind the call as it read before'; 0 by the template 'total and deterministic' (their statements: YtennpdhnjaemeaaDoorTotals.lean).
  GIVEN WITH THE SEED: the statements are not yours to turn. If you find one false, say at which input.
  Laid BY PROGRAM, IN A SANDBOX (cutbox-rows.mjs): the forced cells as the released guide's own fill.sh prints them over the translation db3d0fa0ade29562… (all of the seat's roots in one cut). By AI agents, Wed Nov 11 2026. No macro, syntax, notation, axiom, sorry.
-/
import Derived.Test.YtennpdhnjaemeaaDoorChecked
import GoSem.Claim
import GoSem.ClaimJoined
import GoSem.ClaimMapViews
import Derived.JoinedTies
import Derived.KernelRfl
namespace Go.Proofs.YtennpdhnjaemeaaDoor
/- THE CELL 'sum', in the pinned program and in every row, IS THE sha256 OF THE DUMP (.gsa) THAT YtennpdhnjaemeaaDoorProg.lean LOADS. Nothing in Lean hashes anything: it is a label: what it is worth is what the hold of that sum in a sandbox is worth. -/
noncomputable def Tryd.pinned : Pinned := { name := "ytennpdhnjaemeaadoor", sum := "db3d0fa0ade29562ae31aa9e51db03e8f7051e244da83db796f53fef61996f72", checked := Tryd.checked }
namespace Rows
def none {H : Type} : Left H := { results := [], args := [] }

/- WHAT THE LISTED PACKAGE-LEVEL VARIABLES READ AS WHEN THE CALL BEGINS. Each datum BY PROGRAM (the guide's laid-datum.mjs) off the statement by which the dump's own 'gosem.cut.vars' lays the variable. In a bare row this is a premise. The card (YtennpdhnjaemeaaDoorCards.lean) ties it to the program's text. -/
def laid_incipit_crc_halves {H : Type} : DataW H := .agg [.lit (.int .u32 0), .lit (.int .u32 274646895), .lit (.int .u32 549293790), .lit (.int .u32 820201905), .lit (.int .u32 1098587580), .lit (.int .u32 1361435347), .lit (.int .u32 1640403810), .lit (.int .u32 1905808397), .lit (.int .u32 2197175160), .lit (.int .u32 2460548119), .lit (.int .u32 2722870694), .lit (.int .u32 2987750089), .lit (.int .u32 3280807620), .lit (.int .u32 3553878443), .lit (.int .u32 3811616794), .lit (.int .u32 4084100981)]

/-- 'incipitlaw17.TableAll': WHATEVER THE INPUT: true; the input reads as it did. -/
def tableAllSpec : ChangeSpec := { name := "tableAll", fn := fun _ => fun
  | [d1, d2, d3] => { results := [.lit (.bool true)], args := [d1, d2, d3] }
  | _ => none }
def tableAllRow : OpenClaim := { program := "ytennpdhnjaemeaadoor", sum := "db3d0fa0ade29562ae31aa9e51db03e8f7051e244da83db796f53fef61996f72", func := "incipit/incipitlaw17.TableAll", spec := "tableAll", inPlace := ["internal/bytealg.abigen_runtime_cmpstring"], unfollowed := true, recurses := true, named := ["incipit/crc.halves"], apart := false, laid := [("incipit/crc.halves", laid_incipit_crc_halves)] }
def TableAllSaid : Prop := tableAllRow.holds Tryd.pinned (OpenSpec.ofChange tableAllSpec)

/-- ITS FALSE NEIGHBOUR: 'it returns false'. Refute it at one input. -/
def tableAllWrong : ChangeSpec := { name := "tableAll", fn := fun _ => fun
  | [d1, d2, d3] => { results := [.lit (.bool false)], args := [d1, d2, d3] }
  | _ => none }
def TableAllWrongFalsely : Prop := tableAllRow.holds Tryd.pinned (OpenSpec.ofChange tableAllWrong)

/-- 'incipitlaw17.TableRaw': WHATEVER THE INPUT: true; the input reads as it did. -/
def tableRawSpec : ChangeSpec := { name := "tableRaw", fn := fun _ => fun
  | [d] => { results := [.lit (.bool true)], args := [d] }
  | _ => none }
def tableRawRow : OpenClaim := { program := "ytennpdhnjaemeaadoor", sum := "db3d0fa0ade29562ae31aa9e51db03e8f7051e244da83db796f53fef61996f72", func := "incipit/incipitlaw17.TableRaw", spec := "tableRaw", inPlace := ["internal/bytealg.abigen_runtime_cmpstring"], unfollowed := true, recurses := true, named := ["incipit/crc.halves"], apart := false, laid := [("incipit/crc.halves", laid_incipit_crc_halves)] }
def TableRawSaid : Prop := tableRawRow.holds Tryd.pinned (OpenSpec.ofChange tableRawSpec)

/-- ITS FALSE NEIGHBOUR: 'it returns false'. Refute it at one input. -/
def tableRawWrong : ChangeSpec := { name := "tableRaw", fn := fun _ => fun
  | [d] => { results := [.lit (.bool false)], args := [d] }
  | _ => none }
def TableRawWrongFalsely : Prop := tableRawRow.holds Tryd.pinned (OpenSpec.ofChange tableRawWrong)

/-- 'incipitlaw17.TableSpoilt': WHATEVER THE INPUT: true; the input reads as it did. -/
def tableSpoiltSpec : ChangeSpec := { name := "tableSpoilt", fn := fun _ => fun
  | [d1, d2, d3, d4, d5] => { results := [.lit (.bool true)], args := [d1, d2, d3, d4, d5] }
  | _ => none }
def tableSpoiltRow : OpenClaim := { program := "ytennpdhnjaemeaadoor", sum := "db3d0fa0ade29562ae31aa9e51db03e8f7051e244da83db796f53fef61996f72", func := "incipit/incipitlaw17.TableSpoilt", spec := "tableSpoilt", inPlace := ["internal/bytealg.abigen_runtime_cmpstring"], unfollowed := true, recurses := true, named := ["incipit/crc.halves"], apart := false, laid := [("incipit/crc.halves", laid_incipit_crc_halves)] }
def TableSpoiltSaid : Prop := tableSpoiltRow.holds Tryd.pinned (OpenSpec.ofChange tableSpoiltSpec)

/-- ITS FALSE NEIGHBOUR: 'it returns false'. Refute it at one input. -/
def tableSpoiltWrong : ChangeSpec := { name := "tableSpoilt", fn := fun _ => fun
  | [d1, d2, d3, d4, d5] => { results := [.lit (.bool false)], args := [d1, d2, d3, d4, d5] }
  | _ => none }
def TableSpoiltWrongFalsely : Prop := tableSpoiltRow.holds Tryd.pinned (OpenSpec.ofChange tableSpoiltWrong)

/-- 'incipitlaw17.TableNone': WHATEVER THE INPUT: true; the input reads as it did. -/
def tableNoneSpec : ChangeSpec := { name := "tableNone", fn := fun _ => fun
  | [] => { results := [.lit (.bool true)], args := [] }
  | _ => none }
def tableNoneRow : OpenClaim := { program := "ytennpdhnjaemeaadoor", sum := "db3d0fa0ade29562ae31aa9e51db03e8f7051e244da83db796f53fef61996f72", func := "incipit/incipitlaw17.TableNone", spec := "tableNone", inPlace := ["internal/bytealg.abigen_runtime_cmpstring"], unfollowed := true, recurses := true, named := ["incipit/crc.halves"], apart := false, laid := [("incipit/crc.halves", laid_incipit_crc_halves)] }
def TableNoneSaid : Prop := tableNoneRow.holds Tryd.pinned (OpenSpec.ofChange tableNoneSpec)

/-- ITS FALSE NEIGHBOUR: 'it returns false'. Refute it at one input. -/
def tableNoneWrong : ChangeSpec := { name := "tableNone", fn := fun _ => fun
  | [] => { results := [.lit (.bool false)], args := [] }
  | _ => none }
def TableNoneWrongFalsely : Prop := tableNoneRow.holds Tryd.pinned (OpenSpec.ofChange tableNoneWrong)

/-- 'incipitlaw17.TableMany': WHATEVER THE INPUT: true; the input reads as it did. -/
def tableManySpec : ChangeSpec := { name := "tableMany", fn := fun _ => fun
  | [d1, d2] => { results := [.lit (.bool true)], args := [d1, d2] }
  | _ => none }
def tableManyRow : OpenClaim := { program := "ytennpdhnjaemeaadoor", sum := "db3d0fa0ade29562ae31aa9e51db03e8f7051e244da83db796f53fef61996f72", func := "incipit/incipitlaw17.TableMany", spec := "tableMany", inPlace := ["internal/bytealg.abigen_runtime_cmpstring"], unfollowed := true, recurses := true, named := ["incipit/crc.halves"], apart := false, laid := [("incipit/crc.halves", laid_incipit_crc_halves)] }
def TableManySaid : Prop := tableManyRow.holds Tryd.pinned (OpenSpec.ofChange tableManySpec)

/-- ITS FALSE NEIGHBOUR: 'it returns false'. Refute it at one input. -/
def tableManyWrong : ChangeSpec := { name := "tableMany", fn := fun _ => fun
  | [d1, d2] => { results := [.lit (.bool false)], args := [d1, d2] }
  | _ => none }
def TableManyWrongFalsely : Prop := tableManyRow.holds Tryd.pinned (OpenSpec.ofChange tableManyWrong)

/-- 'incipitlaw17.TableVersions': WHATEVER THE INPUT: true; the input reads as it did. -/
def tableVersionsSpec : ChangeSpec := { name := "tableVersions", fn := fun _ => fun
  | [d1, d2] => { results := [.lit (.bool true)], args := [d1, d2] }
  | _ => none }
def tableVersionsRow : OpenClaim := { program := "ytennpdhnjaemeaadoor", sum := "db3d0fa0ade29562ae31aa9e51db03e8f7051e244da83db796f53fef61996f72", func := "incipit/incipitlaw17.TableVersions", spec := "tableVersions", inPlace := ["internal/bytealg.abigen_runtime_cmpstring"], unfollowed := true, recurses := true, named := ["incipit/crc.halves"], apart := false, laid := [("incipit/crc.halves", laid_incipit_crc_halves)] }
def TableVersionsSaid : Prop := tableVersionsRow.holds Tryd.pinned (OpenSpec.ofChange tableVersionsSpec)

/-- ITS FALSE NEIGHBOUR: 'it returns false'. Refute it at one input. -/
def tableVersionsWrong : ChangeSpec := { name := "tableVersions", fn := fun _ => fun
  | [d1, d2] => { results := [.lit (.bool false)], args := [d1, d2] }
  | _ => none }
def TableVersionsWrongFalsely : Prop := tableVersionsRow.holds Tryd.pinned (OpenSpec.ofChange tableVersionsWrong)

/- THE SECOND FORM. 'bulk': how many values and letters a reading holds, each counted each time it is reached (what is shared counts as often as it is met; a slice's spare places count too). A statement '..UptoSaid' is the law's where the arguments, and the package variables that the reading takes, are together of bulk at most 1048576: NARROWER than '..Said'. Prove '..Said' where nothing that the law and all that it calls make is longer than what came in: it says more and counts as full. Else prove '..UptoSaid'. A law counts once. -/
mutual
def uptoBulk {H : Type} : DataW H → Nat
  | .lit (.string bytes) => bytes.length + 1
  | .lit _ => 1
  | .nil => 1
  | .ptr d => uptoBulk d + 1
  | .slice elems spare => uptoBulkAll elems + uptoBulkAll spare + 1
  | .agg parts => uptoBulkAll parts + 1
  | .iface _ d => uptoBulk d + 1
  | .map entries => uptoBulkEntries entries + 1
  | .held _ => 1
def uptoBulkAll {H : Type} : List (DataW H) → Nat
  | [] => 0
  | d :: r => uptoBulk d + uptoBulkAll r
def uptoBulkEntries {H : Type} : List (Lit × DataW H) → Nat
  | [] => 0
  | x :: r => uptoBulkEntry x + uptoBulkEntries r
def uptoBulkEntry {H : Type} : Lit × DataW H → Nat
  | (.string bytes, d) => bytes.length + uptoBulk d + 1
  | (_, d) => uptoBulk d + 1
 end
def uptoSmall : (H : Type) → List (DataW H) → Bool := fun _ ds => decide (uptoBulkAll ds ≤ 1048576)
def OpenSpec.upto (s : _root_.Go.ChangeSpec) : _root_.Go.OpenSpec := { _root_.Go.OpenSpec.ofChange s with cond := some uptoSmall }

/-- 'incipitlaw17.TableAll', WHERE WHAT IT READS IS OF BULK AT MOST 1048576: true; the input reads as it did. -/
def tableAllUptoRow : OpenClaim := { program := "ytennpdhnjaemeaadoor", sum := "db3d0fa0ade29562ae31aa9e51db03e8f7051e244da83db796f53fef61996f72", func := "incipit/incipitlaw17.TableAll", spec := "tableAll", inPlace := ["internal/bytealg.abigen_runtime_cmpstring"], unfollowed := true, recurses := true, named := ["incipit/crc.halves"], apart := false, laid := [("incipit/crc.halves", laid_incipit_crc_halves)], narrowed := true }
def TableAllUptoSaid : Prop := tableAllUptoRow.holds Tryd.pinned (OpenSpec.upto tableAllSpec)

/-- 'incipitlaw17.TableRaw', WHERE WHAT IT READS IS OF BULK AT MOST 1048576: true; the input reads as it did. -/
def tableRawUptoRow : OpenClaim := { program := "ytennpdhnjaemeaadoor", sum := "db3d0fa0ade29562ae31aa9e51db03e8f7051e244da83db796f53fef61996f72", func := "incipit/incipitlaw17.TableRaw", spec := "tableRaw", inPlace := ["internal/bytealg.abigen_runtime_cmpstring"], unfollowed := true, recurses := true, named := ["incipit/crc.halves"], apart := false, laid := [("incipit/crc.halves", laid_incipit_crc_halves)], narrowed := true }
def TableRawUptoSaid : Prop := tableRawUptoRow.holds Tryd.pinned (OpenSpec.upto tableRawSpec)

/-- 'incipitlaw17.TableSpoilt', WHERE WHAT IT READS IS OF BULK AT MOST 1048576: true; the input reads as it did. -/
def tableSpoiltUptoRow : OpenClaim := { program := "ytennpdhnjaemeaadoor", sum := "db3d0fa0ade29562ae31aa9e51db03e8f7051e244da83db796f53fef61996f72", func := "incipit/incipitlaw17.TableSpoilt", spec := "tableSpoilt", inPlace := ["internal/bytealg.abigen_runtime_cmpstring"], unfollowed := true, recurses := true, named := ["incipit/crc.halves"], apart := false, laid := [("incipit/crc.halves", laid_incipit_crc_halves)], narrowed := true }
def TableSpoiltUptoSaid : Prop := tableSpoiltUptoRow.holds Tryd.pinned (OpenSpec.upto tableSpoiltSpec)

/-- 'incipitlaw17.TableNone', WHERE WHAT IT READS IS OF BULK AT MOST 1048576: true; the input reads as it did. -/
def tableNoneUptoRow : OpenClaim := { program := "ytennpdhnjaemeaadoor", sum := "db3d0fa0ade29562ae31aa9e51db03e8f7051e244da83db796f53fef61996f72", func := "incipit/incipitlaw17.TableNone", spec := "tableNone", inPlace := ["internal/bytealg.abigen_runtime_cmpstring"], unfollowed := true, recurses := true, named := ["incipit/crc.halves"], apart := false, laid := [("incipit/crc.halves", laid_incipit_crc_halves)], narrowed := true }
def TableNoneUptoSaid : Prop := tableNoneUptoRow.holds Tryd.pinned (OpenSpec.upto tableNoneSpec)

/-- 'incipitlaw17.TableMany', WHERE WHAT IT READS IS OF BULK AT MOST 1048576: true; the input reads as it did. -/
def tableManyUptoRow : OpenClaim := { program := "ytennpdhnjaemeaadoor", sum := "db3d0fa0ade29562ae31aa9e51db03e8f7051e244da83db796f53fef61996f72", func := "incipit/incipitlaw17.TableMany", spec := "tableMany", inPlace := ["internal/bytealg.abigen_runtime_cmpstring"], unfollowed := true, recurses := true, named := ["incipit/crc.halves"], apart := false, laid := [("incipit/crc.halves", laid_incipit_crc_halves)], narrowed := true }
def TableManyUptoSaid : Prop := tableManyUptoRow.holds Tryd.pinned (OpenSpec.upto tableManySpec)

/-- 'incipitlaw17.TableVersions', WHERE WHAT IT READS IS OF BULK AT MOST 1048576: true; the input reads as it did. -/
def tableVersionsUptoRow : OpenClaim := { program := "ytennpdhnjaemeaadoor", sum := "db3d0fa0ade29562ae31aa9e51db03e8f7051e244da83db796f53fef61996f72", func := "incipit/incipitlaw17.TableVersions", spec := "tableVersions", inPlace := ["internal/bytealg.abigen_runtime_cmpstring"], unfollowed := true, recurses := true, named := ["incipit/crc.halves"], apart := false, laid := [("incipit/crc.halves", laid_incipit_crc_halves)], narrowed := true }
def TableVersionsUptoSaid : Prop := tableVersionsUptoRow.holds Tryd.pinned (OpenSpec.upto tableVersionsSpec)

end Rows
end Go.Proofs.YtennpdhnjaemeaaDoor
