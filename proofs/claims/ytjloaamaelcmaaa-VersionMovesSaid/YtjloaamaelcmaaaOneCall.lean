/- A call of a function as one step of a region; a pointer that is made. -/
import Derived.Test.YtjloaamaelcmaaaMgStep
namespace Go.Proofs.Ytjloaamaelcmaaa
set_option linter.unusedVariables false
open Go.RowKit
theorem one_call {P : Program} {ops : Array Oper} {o : Oper} {a : Act} {w : World} {K : Act → World → Prop} {Q : Exit → Act → World → Prop} {E : Prop} (d : Nat) (hd : o.dst = some d) (hw : Region.wanted o (yielded ops a.tmps) = true)
    (f : Nat) (x : Operand) (ats : Array TypeId) (hop : o.op = .call { callee := .value (.func f), args := #[x], argTypes := ats }) {v : Value} (hx : a.eval x = v) (hen : ∀ w, (callFunc f #[v]).run P w = .ok (.enter f #[v]) w)
    (hC : Calls P f #[v] w fun e w' => ∃ u, e = .returned u ∧ K (a.put (some d) u) w') : if Region.wanted o (yielded ops a.tmps) = true then Oper.wp P o a w K Q else E := by
  rw [if_pos hw]
  have hf : a.eval (.func f) = .func (.func f) #[] #[] := rfl
  unfold Oper.wp execOp
  simp only [hop, resolve, invoke, Deferred.ofValue, hf, Sem.run_bind, Sem.run_pure, Result.andThen_ok, List.map_toArray, List.map_cons, List.map_nil, hx, Array.append_empty, List.append_toArray]
  have e : (callFunc f ([] ++ [v]).toArray).run P w = .ok (.enter f #[v]) w := hen w
  rw [e, Oper.upon_enter]
  refine hC.mono ?_
  rintro e w' ⟨u, rfl, h⟩
  show K (a.put o.dst u) w'
  rw [hd]; exact h
/-- Any operation, by what it gives. -/
theorem one_any {P : Program} {ops : Array Oper} {o : Oper} {a : Act} {w : World} {K : Act → World → Prop} {Q : Exit → Act → World → Prop} {E : Prop} (d : Nat) (hd : o.dst = some d) (hw : Region.wanted o (yielded ops a.tmps) = true)
    {v : Value} {w' : World} (hr : (execOp a.eval o).run P w = .ok (.value v) w') (hK : K (a.put (some d) v) w') : if Region.wanted o (yielded ops a.tmps) = true then Oper.wp P o a w K Q else E := by
  rw [if_pos hw]
  unfold Oper.wp
  rw [hr]
  show K (a.put o.dst v) w'
  rw [hd]; exact hK
end Go.Proofs.Ytjloaamaelcmaaa
