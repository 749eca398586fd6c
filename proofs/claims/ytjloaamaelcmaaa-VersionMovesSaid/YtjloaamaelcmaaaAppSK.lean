/- 'append(s, t...)' of rows whose elements are structs. -/
import Derived.Test.YtjloaamaelcmaaaMBase
namespace Go.Proofs.Ytjloaamaelcmaaa
set_option linter.unusedVariables false
open Go.RowKit
/-- 'append(s, t...)' of rows of the call's own. -/
theorem wp_appSK {α : Type} {enc : α → List Value} {ops : Array Oper} {rest : List Oper} {o : Oper} {a : Act} {w : World} {Q : Exit → Act → World → Prop} {t E k bytes : Nat} {z : Value} (F : ElemK Try.prog t E k bytes z) (hk : EncK enc k)
    (s x : Operand) (ho : o.op = .call { callee := .builtin .append, args := #[s, x], argTypes := #[t, t] }) (hw : Region.wanted o (yielded ops a.tmps) = true)
    {B : Nat} {v src : Value} {xs us : List α} (hs : a.eval s = v) (hown : OwnK enc k E B w v xs) (hx : a.eval x = src) (hr : RdK enc k w src us) (h1 : ∀ u ∈ us.flatMap enc, u.oneCell' = true) (hlen : (xs.length + us.length) * bytes ≤ 140737488355328) (hm : xs.length + us.length ≤ maxLen) (hB : B ≤ w.heap.size)
    (h : ∀ v' w', OwnK enc k E B w' v' (xs ++ us) → Below B w w' → wpList Try.prog ops Q rest (a.put o.dst v') w') : wpList Try.prog ops Q (o :: rest) a w := by
  refine wpList_step fun K hK => ?_
  rw [if_pos hw]
  obtain ⟨v', w', hrun, h2, h3⟩ := run_appK (ty := o.type) F hk hown hr h1 hlen hm hB
  unfold Oper.wp execOp
  simp only [ho, resolve, invoke, builtin, Sem.run_bind, Sem.run_pure, Result.andThen_ok, List.map_toArray, List.map_cons, List.map_nil, hs, hx, hrun]
  exact hK _ _ (h v' w' h2 h3)
end Go.Proofs.Ytjloaamaelcmaaa
