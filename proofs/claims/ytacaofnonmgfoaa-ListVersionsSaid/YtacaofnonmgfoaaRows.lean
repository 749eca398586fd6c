/-
  No cell of these rows narrows 'for every input' (looked for: loops, veiled, ifaces, maps, wideKeys, modest, calm, conditions, laid).
  DERIVED. THE GIVEN ROWS OF THIS SEAT. 4 by the template 'for every input the law returns true; each argument reads behind the call as it read before'; 0 by the template 'total and deterministic' (their statements: YtacaofnonmgfoaaTotals.lean).
  GIVEN WITH THE SEED: the statements are not yours to turn. If you find one false, say at which input.
  Laid BY PROGRAM, IN A SANDBOX (cutbox-rows.mjs): the forced cells as the released guide's own fill.sh prints them over the translation 1d45381b1177549b… (all of the seat's roots in one cut). By AI agents, Wed Nov 11 2026. No macro, syntax, notation, axiom, sorry.
-/
import Derived.Test.YtacaofnonmgfoaaChecked
import GoSem.Claim
import GoSem.ClaimJoined
import GoSem.ClaimMapViews
import Derived.JoinedTies
import Derived.KernelRfl
namespace Go.Proofs.Ytacaofnonmgfoaa
/- THE CELL 'sum', in the pinned program and in every row, IS THE sha256 OF THE DUMP (.gsa) THAT YtacaofnonmgfoaaProg.lean LOADS. Nothing in Lean hashes anything: it is a label: what it is worth is what the hold of that sum in a sandbox is worth. -/
noncomputable def Try.pinned : Pinned := { name := "ytacaofnonmgfoaa", sum := "1d45381b1177549bb37bbdd730a07087c472a70d270c86724b9546135c7a3a65", checked := Try.checked }
namespace Rows
def none {H : Type} : Left H := { results := [], args := [] }

/-- 'incipitlaw14.ListTowers': WHATEVER THE INPUT: true; the input reads as it did. -/
def listTowersSpec : ChangeSpec := { name := "listTowers", fn := fun _ => fun
  | [d1, d2, d3] => { results := [.lit (.bool true)], args := [d1, d2, d3] }
  | _ => none }
def listTowersRow : OpenClaim := { program := "ytacaofnonmgfoaa", sum := "1d45381b1177549bb37bbdd730a07087c472a70d270c86724b9546135c7a3a65", func := "incipit/incipitlaw14.ListTowers", spec := "listTowers", inPlace := ["internal/bytealg.abigen_runtime_cmpstring"], apart := false }
def ListTowersSaid : Prop := listTowersRow.holds Try.pinned (OpenSpec.ofChange listTowersSpec)

/-- ITS FALSE NEIGHBOUR: 'it returns false'. Refute it at one input. -/
def listTowersWrong : ChangeSpec := { name := "listTowers", fn := fun _ => fun
  | [d1, d2, d3] => { results := [.lit (.bool false)], args := [d1, d2, d3] }
  | _ => none }
def ListTowersWrongFalsely : Prop := listTowersRow.holds Try.pinned (OpenSpec.ofChange listTowersWrong)

/-- 'incipitlaw14.ListNone': WHATEVER THE INPUT: true; the input reads as it did. -/
def listNoneSpec : ChangeSpec := { name := "listNone", fn := fun _ => fun
  | [] => { results := [.lit (.bool true)], args := [] }
  | _ => none }
def listNoneRow : OpenClaim := { program := "ytacaofnonmgfoaa", sum := "1d45381b1177549bb37bbdd730a07087c472a70d270c86724b9546135c7a3a65", func := "incipit/incipitlaw14.ListNone", spec := "listNone", inPlace := ["internal/bytealg.abigen_runtime_cmpstring"], apart := false }
def ListNoneSaid : Prop := listNoneRow.holds Try.pinned (OpenSpec.ofChange listNoneSpec)

/-- ITS FALSE NEIGHBOUR: 'it returns false'. Refute it at one input. -/
def listNoneWrong : ChangeSpec := { name := "listNone", fn := fun _ => fun
  | [] => { results := [.lit (.bool false)], args := [] }
  | _ => none }
def ListNoneWrongFalsely : Prop := listNoneRow.holds Try.pinned (OpenSpec.ofChange listNoneWrong)

/-- 'incipitlaw14.ListVersions': WHATEVER THE INPUT: true; the input reads as it did. -/
def listVersionsSpec : ChangeSpec := { name := "listVersions", fn := fun _ => fun
  | [d1, d2, d3, d4] => { results := [.lit (.bool true)], args := [d1, d2, d3, d4] }
  | _ => none }
def listVersionsRow : OpenClaim := { program := "ytacaofnonmgfoaa", sum := "1d45381b1177549bb37bbdd730a07087c472a70d270c86724b9546135c7a3a65", func := "incipit/incipitlaw14.ListVersions", spec := "listVersions", inPlace := ["internal/bytealg.abigen_runtime_cmpstring"], apart := false }
def ListVersionsSaid : Prop := listVersionsRow.holds Try.pinned (OpenSpec.ofChange listVersionsSpec)

/-- ITS FALSE NEIGHBOUR: 'it returns false'. Refute it at one input. -/
def listVersionsWrong : ChangeSpec := { name := "listVersions", fn := fun _ => fun
  | [d1, d2, d3, d4] => { results := [.lit (.bool false)], args := [d1, d2, d3, d4] }
  | _ => none }
def ListVersionsWrongFalsely : Prop := listVersionsRow.holds Try.pinned (OpenSpec.ofChange listVersionsWrong)

/-- 'incipitlaw14.ListBoth': WHATEVER THE INPUT: true; the input reads as it did. -/
def listBothSpec : ChangeSpec := { name := "listBoth", fn := fun _ => fun
  | [d] => { results := [.lit (.bool true)], args := [d] }
  | _ => none }
def listBothRow : OpenClaim := { program := "ytacaofnonmgfoaa", sum := "1d45381b1177549bb37bbdd730a07087c472a70d270c86724b9546135c7a3a65", func := "incipit/incipitlaw14.ListBoth", spec := "listBoth", inPlace := ["internal/bytealg.abigen_runtime_cmpstring"], apart := false }
def ListBothSaid : Prop := listBothRow.holds Try.pinned (OpenSpec.ofChange listBothSpec)

/-- ITS FALSE NEIGHBOUR: 'it returns false'. Refute it at one input. -/
def listBothWrong : ChangeSpec := { name := "listBoth", fn := fun _ => fun
  | [d] => { results := [.lit (.bool false)], args := [d] }
  | _ => none }
def ListBothWrongFalsely : Prop := listBothRow.holds Try.pinned (OpenSpec.ofChange listBothWrong)

/- THE SECOND FORM. 'bulk': how many values and letters a reading holds, each counted each time it is reached (what is shared counts as often as it is met; a slice's spare places count too). A statement '..UptoSaid' is the law's where the arguments, and the package variables that the reading takes, are together of bulk at most 1048576: NARROWER than '..Said'. Prove '..Said' where nothing that the law and all that it calls make is longer than what came in: it says more and counts as full. Else prove '..UptoSaid'. A law counts once. -/
mutual
def uptoBulk {H : Type} : DataW H → Nat
  | .lit (.string bytes) => bytes.length + 1
  | .lit _ => 1
  | .nil => 1
  | .ptr d => uptoBulk d + 1
  | .slice elems spare => uptoBulkAll elems + uptoBulkAll spare + 1
  | .agg parts => uptoBulkAll parts + 1
  | .iface _ d => uptoBulk d + 1
  | .map entries => uptoBulkEntries entries + 1
  | .held _ => 1
def uptoBulkAll {H : Type} : List (DataW H) → Nat
  | [] => 0
  | d :: r => uptoBulk d + uptoBulkAll r
def uptoBulkEntries {H : Type} : List (Lit × DataW H) → Nat
  | [] => 0
  | x :: r => uptoBulkEntry x + uptoBulkEntries r
def uptoBulkEntry {H : Type} : Lit × DataW H → Nat
  | (.string bytes, d) => bytes.length + uptoBulk d + 1
  | (_, d) => uptoBulk d + 1
 end
def uptoSmall : (H : Type) → List (DataW H) → Bool := fun _ ds => decide (uptoBulkAll ds ≤ 1048576)
def OpenSpec.upto (s : _root_.Go.ChangeSpec) : _root_.Go.OpenSpec := { _root_.Go.OpenSpec.ofChange s with cond := some uptoSmall }

/-- 'incipitlaw14.ListTowers', WHERE WHAT IT READS IS OF BULK AT MOST 1048576: true; the input reads as it did. -/
def listTowersUptoRow : OpenClaim := { program := "ytacaofnonmgfoaa", sum := "1d45381b1177549bb37bbdd730a07087c472a70d270c86724b9546135c7a3a65", func := "incipit/incipitlaw14.ListTowers", spec := "listTowers", inPlace := ["internal/bytealg.abigen_runtime_cmpstring"], apart := false, narrowed := true }
def ListTowersUptoSaid : Prop := listTowersUptoRow.holds Try.pinned (OpenSpec.upto listTowersSpec)

/-- 'incipitlaw14.ListNone', WHERE WHAT IT READS IS OF BULK AT MOST 1048576: true; the input reads as it did. -/
def listNoneUptoRow : OpenClaim := { program := "ytacaofnonmgfoaa", sum := "1d45381b1177549bb37bbdd730a07087c472a70d270c86724b9546135c7a3a65", func := "incipit/incipitlaw14.ListNone", spec := "listNone", inPlace := ["internal/bytealg.abigen_runtime_cmpstring"], apart := false, narrowed := true }
def ListNoneUptoSaid : Prop := listNoneUptoRow.holds Try.pinned (OpenSpec.upto listNoneSpec)

/-- 'incipitlaw14.ListVersions', WHERE WHAT IT READS IS OF BULK AT MOST 1048576: true; the input reads as it did. -/
def listVersionsUptoRow : OpenClaim := { program := "ytacaofnonmgfoaa", sum := "1d45381b1177549bb37bbdd730a07087c472a70d270c86724b9546135c7a3a65", func := "incipit/incipitlaw14.ListVersions", spec := "listVersions", inPlace := ["internal/bytealg.abigen_runtime_cmpstring"], apart := false, narrowed := true }
def ListVersionsUptoSaid : Prop := listVersionsUptoRow.holds Try.pinned (OpenSpec.upto listVersionsSpec)

/-- 'incipitlaw14.ListBoth', WHERE WHAT IT READS IS OF BULK AT MOST 1048576: true; the input reads as it did. -/
def listBothUptoRow : OpenClaim := { program := "ytacaofnonmgfoaa", sum := "1d45381b1177549bb37bbdd730a07087c472a70d270c86724b9546135c7a3a65", func := "incipit/incipitlaw14.ListBoth", spec := "listBoth", inPlace := ["internal/bytealg.abigen_runtime_cmpstring"], apart := false, narrowed := true }
def ListBothUptoSaid : Prop := listBothUptoRow.holds Try.pinned (OpenSpec.upto listBothSpec)

end Rows
end Go.Proofs.Ytacaofnonmgfoaa
