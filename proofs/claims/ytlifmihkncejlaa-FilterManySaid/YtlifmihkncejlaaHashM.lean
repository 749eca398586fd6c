/- The sum of a text's bytes. -/
import Derived.Test.YtlifmihkncejlaaBits
namespace Go.Proofs.Ytlifmihkncejlaa
set_option linter.unusedVariables false
/-- The sum of a text's bytes, a byte further. -/
def hstep (h : Int) (b : UInt8) : Int := IntKind.u64.wrap (bits .xor .u64 h (IntKind.u64.wrap b.toNat) * 1099511628211)
def hashL (l : List UInt8) : Int := l.foldl hstep 14695981039346656037
theorem hashL_take (l : List UInt8) (k : Nat) (h : k < l.length) : hashL (l.take (k + 1)) = hstep (hashL (l.take k)) l[k] := by
  unfold hashL; rw [List.take_succ_eq_append_getElem h, List.foldl_append]; rfl
end Go.Proofs.Ytlifmihkncejlaa
