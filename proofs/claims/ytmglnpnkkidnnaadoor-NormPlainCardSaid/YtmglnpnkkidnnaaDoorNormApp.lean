/- Append to a slice of chars of the call's own; what such an append leaves. -/
import Derived.Test.YtmglnpnkkidnnaaDoorNormNums
import Derived.Maps.AppendAt
namespace Go.Proofs.YtmglnpnkkidnnaaDoor
set_option linter.unusedVariables false
open Go.RowKit
/-- Rows of ints stay as they are. -/
def KeepI (w w' : World) : Prop := ∀ (p : Nat) (cur : Array Value), w.heap[p]? = some (Obj.cells cur 3 (0, 0)) → w'.heap[p]? = some (Obj.cells cur 3 (0, 0))
theorem KeepI.refl (w : World) : KeepI w w := fun _ _ h => h
theorem KeepI.trans {a b c : World} (h : KeepI a b) (k : KeepI b c) : KeepI a c := fun p cur e => k p cur (h p cur e)
theorem KeepI.below {w w' : World} (h : Below w.heap.size w w') : KeepI w w' := fun p cur e => (h.block p (Array.getElem?_eq_some_iff.1 e).1).trans e
theorem OwnV.keepI {B : Nat} {w w' : World} {v : Value} {vs : List Value} (h : OwnV 3 B w v vs) (k : KeepI w w') : OwnV 3 B w' v vs := by
  refine ⟨h.1, ?_⟩
  rcases h.2 with h | ⟨g, cap, cur, h1, h2, h3, h4⟩
  · exact .inl h
  · exact .inr ⟨g, cap, cur, h1, h2, k g cur h3, h4⟩
theorem info_char : (Tryd.prog.info? 43).map (fun i => (i.zero, i.size, i.bytes)) = some (some (.agg #[.int .i64 0, .int .i64 0]), 2, 16) := by kernel_rfl
/-- 'append(chars, char{c, class})'. -/
theorem wp_appC {cl : Int → Int} {ops : Array Oper} {rest : List Oper} {o : Oper} {a : Act} {Q : Exit → Act → World → Prop}
    (s x : Operand) (ho : o.op = .call { callee := .builtin .append, args := #[s, x], argTypes := #[41, 41] }) (hgd : o.guard = none)
    {B : Nat} {w : World} {v : Value} {L : List Int} (hs : a.eval s = v) (hown : OwnC cl B w v L) (c : Int) (hx : a.eval x = .slice (some ⟨w.heap.size, 0, none⟩) 1 1)
    (hlen : L.length ≤ 1000000) (hB : B ≤ w.heap.size)
    (h : ∀ v' w', OwnC cl B w' v' (L ++ [c]) → Below B w w' → KeepI w w' → wpList Tryd.prog ops Q rest (a.put o.dst v') w') : wpList Tryd.prog ops Q (o :: rest) a (w.alloc (.cells #[.int .i64 c, .int .i64 (cl c)] 43)) := by
  obtain ⟨i0, hi, hz0, hz1, hz2⟩ := info_parts info_char
  have hown2 : (w.alloc (.cells #[.int .i64 c, .int .i64 (cl c)] 43)).ownsRow B 43 2 v L.length (L.flatMap (encC cl)) := World.ownsRow.alloc hown _
  refine wpList_append_own _ hgd s x 41 ho B 43 i0 _ 2 16 Tryd.underlying41 hi hz0 hz1 hz2 rfl (by decide) v L.length _ hs hown2 ⟨w.heap.size, 0, none⟩ 1 1 (encC cl c) hx rfl ?_ ?_ (by simp only [maxLen]; omega) (by omega) (by simp; omega) ?_
  · intro j u hj
    have e : (⟨w.heap.size, 0, none⟩ : Addr).add j = ⟨w.heap.size, j, none⟩ := by unfold Addr.add; split <;> simp_all
    rw [e]
    unfold World.cell?
    rw [heap_alloc_new]
    simpa [encC] using hj
  · intro u hu
    simp [encC] at hu
    rcases hu with rfl | rfl <;> rfl
  · intro v' w' g1 g2 g3
    have hb : Below B w w' := ((Below.refl B w).alloc hB _).grown g2 (by simp; omega) fun k hk => (World.ownsRow.lt hown k hk).1
    refine h v' w' ?_ hb ?_
    · unfold OwnC
      rw [List.length_append, List.flatMap_append]
      simpa using g1
    · intro p cur e
      have hp : p < w.heap.size := (Array.getElem?_eq_some_iff.1 e).1
      have e1 : (w.alloc (.cells #[.int .i64 c, .int .i64 (cl c)] 43)).heap[p]? = w.heap[p]? := ((Below.refl w.heap.size w).alloc (Nat.le_refl _) _).block p hp
      rw [g2.block p (by simp; omega) ?_, e1, e]
      intro hpo
      rcases hown.2 with ⟨h1, _⟩ | ⟨g, cap, cur', h1, _, h3, _⟩
      · rw [h1] at hpo; cases hpo
      · rw [h1] at hpo
        have : p = g := by simpa [Value.ownBlock] using hpo
        subst this
        rw [e] at h3; simp at h3
end Go.Proofs.YtmglnpnkkidnnaaDoor
