/-
  No cell of these rows narrows 'for every input' (looked for: loops, veiled, ifaces, maps, wideKeys, modest, calm, conditions, laid).
  DERIVED. THE GIVEN ROWS OF THIS SEAT. 4 by the template 'for every input the law returns true; each argument reads behind the call as it read before'; 0 by the template 'total and deterministic' (their statements: YtjhkgpjefdndaaaTotals.lean).
  GIVEN WITH THE SEED: the statements are not yours to turn. If you find one false, say at which input.
  Laid BY PROGRAM, IN A SANDBOX (cutbox-rows.mjs): the forced cells as the released guide's own fill.sh prints them over the translation 9a3f3372c07ec7e9… (all of the seat's roots in one cut). By AI agents, Wed Nov 11 2026. No macro, syntax, notation, axiom, sorry.
-/
import Derived.Test.YtjhkgpjefdndaaaChecked
import GoSem.Claim
import GoSem.ClaimJoined
import GoSem.ClaimMapViews
import Derived.JoinedTies
import Derived.KernelRfl
namespace Go.Proofs.Ytjhkgpjefdndaaa
/- THE CELL 'sum', in the pinned program and in every row, IS THE sha256 OF THE DUMP (.gsa) THAT YtjhkgpjefdndaaaProg.lean LOADS. Nothing in Lean hashes anything: it is a label: what it is worth is what the hold of that sum in a sandbox is worth. -/
noncomputable def Try.pinned : Pinned := { name := "ytjhkgpjefdndaaa", sum := "9a3f3372c07ec7e9ef0a16265b89ace7cbc96bf833fbf6f87829fe44c2252c75", checked := Try.checked }
namespace Rows
def none {H : Type} : Left H := { results := [], args := [] }

/-- 'incipitlaw8.NumbersAll': WHATEVER THE INPUT: true; the input reads as it did. -/
def numbersAllSpec : ChangeSpec := { name := "numbersAll", fn := fun _ => fun
  | [d1, d2] => { results := [.lit (.bool true)], args := [d1, d2] }
  | _ => none }
def numbersAllRow : OpenClaim := { program := "ytjhkgpjefdndaaa", sum := "9a3f3372c07ec7e9ef0a16265b89ace7cbc96bf833fbf6f87829fe44c2252c75", func := "incipit/incipitlaw8.NumbersAll", spec := "numbersAll", apart := false }
def NumbersAllSaid : Prop := numbersAllRow.holds Try.pinned (OpenSpec.ofChange numbersAllSpec)

/-- ITS FALSE NEIGHBOUR: 'it returns false'. Refute it at one input. -/
def numbersAllWrong : ChangeSpec := { name := "numbersAll", fn := fun _ => fun
  | [d1, d2] => { results := [.lit (.bool false)], args := [d1, d2] }
  | _ => none }
def NumbersAllWrongFalsely : Prop := numbersAllRow.holds Try.pinned (OpenSpec.ofChange numbersAllWrong)

/-- 'incipitlaw8.NumbersBytes': WHATEVER THE INPUT: true; the input reads as it did. -/
def numbersBytesSpec : ChangeSpec := { name := "numbersBytes", fn := fun _ => fun
  | [d] => { results := [.lit (.bool true)], args := [d] }
  | _ => none }
def numbersBytesRow : OpenClaim := { program := "ytjhkgpjefdndaaa", sum := "9a3f3372c07ec7e9ef0a16265b89ace7cbc96bf833fbf6f87829fe44c2252c75", func := "incipit/incipitlaw8.NumbersBytes", spec := "numbersBytes", apart := false }
def NumbersBytesSaid : Prop := numbersBytesRow.holds Try.pinned (OpenSpec.ofChange numbersBytesSpec)

/-- ITS FALSE NEIGHBOUR: 'it returns false'. Refute it at one input. -/
def numbersBytesWrong : ChangeSpec := { name := "numbersBytes", fn := fun _ => fun
  | [d] => { results := [.lit (.bool false)], args := [d] }
  | _ => none }
def NumbersBytesWrongFalsely : Prop := numbersBytesRow.holds Try.pinned (OpenSpec.ofChange numbersBytesWrong)

/-- 'incipitlaw8.NumbersMany': WHATEVER THE INPUT: true; the input reads as it did. -/
def numbersManySpec : ChangeSpec := { name := "numbersMany", fn := fun _ => fun
  | [d1, d2] => { results := [.lit (.bool true)], args := [d1, d2] }
  | _ => none }
def numbersManyRow : OpenClaim := { program := "ytjhkgpjefdndaaa", sum := "9a3f3372c07ec7e9ef0a16265b89ace7cbc96bf833fbf6f87829fe44c2252c75", func := "incipit/incipitlaw8.NumbersMany", spec := "numbersMany", apart := false }
def NumbersManySaid : Prop := numbersManyRow.holds Try.pinned (OpenSpec.ofChange numbersManySpec)

/-- ITS FALSE NEIGHBOUR: 'it returns false'. Refute it at one input. -/
def numbersManyWrong : ChangeSpec := { name := "numbersMany", fn := fun _ => fun
  | [d1, d2] => { results := [.lit (.bool false)], args := [d1, d2] }
  | _ => none }
def NumbersManyWrongFalsely : Prop := numbersManyRow.holds Try.pinned (OpenSpec.ofChange numbersManyWrong)

/-- 'incipitlaw8.NumbersTight': WHATEVER THE INPUT: true; the input reads as it did. -/
def numbersTightSpec : ChangeSpec := { name := "numbersTight", fn := fun _ => fun
  | [d1, d2] => { results := [.lit (.bool true)], args := [d1, d2] }
  | _ => none }
def numbersTightRow : OpenClaim := { program := "ytjhkgpjefdndaaa", sum := "9a3f3372c07ec7e9ef0a16265b89ace7cbc96bf833fbf6f87829fe44c2252c75", func := "incipit/incipitlaw8.NumbersTight", spec := "numbersTight", apart := false }
def NumbersTightSaid : Prop := numbersTightRow.holds Try.pinned (OpenSpec.ofChange numbersTightSpec)

/-- ITS FALSE NEIGHBOUR: 'it returns false'. Refute it at one input. -/
def numbersTightWrong : ChangeSpec := { name := "numbersTight", fn := fun _ => fun
  | [d1, d2] => { results := [.lit (.bool false)], args := [d1, d2] }
  | _ => none }
def NumbersTightWrongFalsely : Prop := numbersTightRow.holds Try.pinned (OpenSpec.ofChange numbersTightWrong)

/- THE SECOND FORM. 'bulk': how many values and letters a reading holds, each counted each time it is reached (what is shared counts as often as it is met; a slice's spare places count too). A statement '..UptoSaid' is the law's where the arguments, and the package variables that the reading takes, are together of bulk at most 1048576: NARROWER than '..Said'. Prove '..Said' where nothing that the law and all that it calls make is longer than what came in: it says more and counts as full. Else prove '..UptoSaid'. A law counts once. -/
mutual
def uptoBulk {H : Type} : DataW H → Nat
  | .lit (.string bytes) => bytes.length + 1
  | .lit _ => 1
  | .nil => 1
  | .ptr d => uptoBulk d + 1
  | .slice elems spare => uptoBulkAll elems + uptoBulkAll spare + 1
  | .agg parts => uptoBulkAll parts + 1
  | .iface _ d => uptoBulk d + 1
  | .map entries => uptoBulkEntries entries + 1
  | .held _ => 1
def uptoBulkAll {H : Type} : List (DataW H) → Nat
  | [] => 0
  | d :: r => uptoBulk d + uptoBulkAll r
def uptoBulkEntries {H : Type} : List (Lit × DataW H) → Nat
  | [] => 0
  | x :: r => uptoBulkEntry x + uptoBulkEntries r
def uptoBulkEntry {H : Type} : Lit × DataW H → Nat
  | (.string bytes, d) => bytes.length + uptoBulk d + 1
  | (_, d) => uptoBulk d + 1
 end
def uptoSmall : (H : Type) → List (DataW H) → Bool := fun _ ds => decide (uptoBulkAll ds ≤ 1048576)
def OpenSpec.upto (s : _root_.Go.ChangeSpec) : _root_.Go.OpenSpec := { _root_.Go.OpenSpec.ofChange s with cond := some uptoSmall }

/-- 'incipitlaw8.NumbersAll', WHERE WHAT IT READS IS OF BULK AT MOST 1048576: true; the input reads as it did. -/
def numbersAllUptoRow : OpenClaim := { program := "ytjhkgpjefdndaaa", sum := "9a3f3372c07ec7e9ef0a16265b89ace7cbc96bf833fbf6f87829fe44c2252c75", func := "incipit/incipitlaw8.NumbersAll", spec := "numbersAll", apart := false, narrowed := true }
def NumbersAllUptoSaid : Prop := numbersAllUptoRow.holds Try.pinned (OpenSpec.upto numbersAllSpec)

/-- 'incipitlaw8.NumbersBytes', WHERE WHAT IT READS IS OF BULK AT MOST 1048576: true; the input reads as it did. -/
def numbersBytesUptoRow : OpenClaim := { program := "ytjhkgpjefdndaaa", sum := "9a3f3372c07ec7e9ef0a16265b89ace7cbc96bf833fbf6f87829fe44c2252c75", func := "incipit/incipitlaw8.NumbersBytes", spec := "numbersBytes", apart := false, narrowed := true }
def NumbersBytesUptoSaid : Prop := numbersBytesUptoRow.holds Try.pinned (OpenSpec.upto numbersBytesSpec)

/-- 'incipitlaw8.NumbersMany', WHERE WHAT IT READS IS OF BULK AT MOST 1048576: true; the input reads as it did. -/
def numbersManyUptoRow : OpenClaim := { program := "ytjhkgpjefdndaaa", sum := "9a3f3372c07ec7e9ef0a16265b89ace7cbc96bf833fbf6f87829fe44c2252c75", func := "incipit/incipitlaw8.NumbersMany", spec := "numbersMany", apart := false, narrowed := true }
def NumbersManyUptoSaid : Prop := numbersManyUptoRow.holds Try.pinned (OpenSpec.upto numbersManySpec)

/-- 'incipitlaw8.NumbersTight', WHERE WHAT IT READS IS OF BULK AT MOST 1048576: true; the input reads as it did. -/
def numbersTightUptoRow : OpenClaim := { program := "ytjhkgpjefdndaaa", sum := "9a3f3372c07ec7e9ef0a16265b89ace7cbc96bf833fbf6f87829fe44c2252c75", func := "incipit/incipitlaw8.NumbersTight", spec := "numbersTight", apart := false, narrowed := true }
def NumbersTightUptoSaid : Prop := numbersTightUptoRow.holds Try.pinned (OpenSpec.upto numbersTightSpec)

end Rows
end Go.Proofs.Ytjhkgpjefdndaaa
