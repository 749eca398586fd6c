/- A struct, a slice that is built: single steps of a region. -/
import Derived.Test.YtgdmmhdihgajkaaMBase
import Derived.RegionTactic
namespace Go.Proofs.Ytgdmmhdihgajkaa
set_option linter.unusedVariables false
open Go.RowKit
/-- A slice that is built. -/
theorem one_bs {P : Program} {ops : Array Oper} {o : Oper} {a : Act} {w : World} {K : Act → World → Prop} {Q : Exit → Act → World → Prop} {E : Prop} (d : Nat) (hd : o.dst = some d) (hw : Region.wanted o (yielded ops a.tmps) = true)
    (t : TypeId) (n : Nat) (parts : Array (Nat × Operand)) (vals : Array (Nat × Value)) (hop : o.op = .buildSlice t n parts) (hv : (parts.map fun (j, x) => (j, a.eval x)) = vals) {v : Value} {w' : World}
    (hr : (Instr.buildSlice t n vals).run P w = .ok v w') (hK : K (a.put (some d) v) w') : if Region.wanted o (yielded ops a.tmps) = true then Oper.wp P o a w K Q else E := by
  rw [if_pos hw]
  unfold Oper.wp execOp
  simp only [hop, hv, Sem.run_bind, hr, Result.andThen_ok]
  have hK' : K (a.put o.dst v) w' := by rw [hd]; exact hK
  exact hK'
/-- A struct that is built. -/
theorem one_bd {P : Program} {ops : Array Oper} {o : Oper} {a : Act} {w : World} {K : Act → World → Prop} {Q : Exit → Act → World → Prop} {E : Prop} (d : Nat) (hd : o.dst = some d) (hw : Region.wanted o (yielded ops a.tmps) = true)
    (t : TypeId) (parts : Array (Nat × Operand)) (vals : Array (Nat × Value)) (hop : o.op = .build t parts) (hv : (parts.map fun (j, x) => (j, a.eval x)) = vals) {v : Value}
    (hr : (Instr.build t vals).run P w = .ok v w) (hK : K (a.put (some d) v) w) : if Region.wanted o (yielded ops a.tmps) = true then Oper.wp P o a w K Q else E := by
  rw [if_pos hw]
  unfold Oper.wp execOp
  simp only [hop, hv, Sem.run_bind, hr, Result.andThen_ok]
  have hK' : K (a.put o.dst v) w := by rw [hd]; exact hK
  exact hK'
theorem byt_bs (p q : Int) (w : World) : (Instr.buildSlice 47 2 #[(0, .int .u8 p), (1, .int .u8 q)]).run Try.prog w = .ok (.slice (some ⟨w.heap.size, 0, none⟩) 2 2) (w.alloc (.cells #[.int .u8 p, .int .u8 q] 5)) := by
  go_simp
end Go.Proofs.Ytgdmmhdihgajkaa
