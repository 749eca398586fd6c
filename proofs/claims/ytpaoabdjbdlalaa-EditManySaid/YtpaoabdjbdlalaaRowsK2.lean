/- Rows whose elements are structs: a slice cut in two; 'append(s, x)' of one element that was just laid. -/
import Derived.Test.YtpaoabdjbdlalaaRowsK
namespace Go.Proofs.Ytpaoabdjbdlalaa
set_option linter.unusedVariables false
open Go.RowKit
theorem RdK.len {α : Type} {enc : α → List Value} {k : Nat} {w : World} {v : Value} {xs : List α} (h : RdK enc k w v xs) : ∃ a cap, v = .slice a xs.length cap ∧ (xs = [] ∨ xs.length ≤ cap ∧ cap ≤ maxLen ∧ a ≠ none) := by
  rcases h with ⟨a, cap, h1, rfl⟩ | ⟨b, off, cap, h1, h2, h3, h4, -⟩
  · exact ⟨a, cap, h1, .inl rfl⟩
  · exact ⟨_, cap, h1, .inr ⟨h3, h4, by simp⟩⟩
/-- the first j of a slice, as 's[:j:j]' tells them. -/
theorem RdK.front {α : Type} {enc : α → List Value} {k : Nat} {w : World} {a : Option Addr} {n cap : Nat} {xs : List α} (h : RdK enc k w (.slice a n cap) xs) (j : Nat) (hj : j ≤ n) :
    RdK enc k w (.slice a j j) (xs.take j) ∧ (xs.take j).length = j ∧ (a = none → xs.take j = []) := by
  have hn : n = xs.length := by
    rcases h with ⟨_, _, e, rfl⟩ | ⟨_, _, _, e, _⟩ <;> simp only [Value.slice.injEq] at e <;> exact e.2.1
  have hl : (xs.take j).length = j := by rw [List.length_take]; omega
  rcases Nat.eq_zero_or_pos j with h0 | h0
  · subst h0; exact ⟨.inl ⟨a, 0, rfl, by simp⟩, hl, fun _ => by simp⟩
  · rcases h with ⟨_, _, e, rfl⟩ | ⟨b, off, c, e, h1, h2, h3, h4, h5⟩
    · simp at hn; omega
    · simp only [Value.slice.injEq] at e
      obtain ⟨rfl, rfl, rfl⟩ := e
      refine ⟨.inr ⟨b, off, j, by rw [hl], by omega, by omega, by omega, h4, fun i m x hx hm => ?_⟩, hl, fun h => by cases h⟩
      rw [List.getElem?_take] at hx
      split at hx
      · exact h5 i m x hx hm
      · cases hx
/-- what is behind the first j, as 's[j:]' tells it. -/
theorem RdK.rest {α : Type} {enc : α → List Value} {k : Nat} {w : World} {a : Option Addr} {n cap : Nat} {xs : List α} (h : RdK enc k w (.slice a n cap) xs) (j : Nat) (hj : j ≤ n) :
    RdK enc k w (.slice (if cap = j then a else a.map (·.add (j * k))) (n - j) (cap - j)) (xs.drop j) := by
  have hn : n = xs.length := by
    rcases h with ⟨_, _, e, rfl⟩ | ⟨_, _, _, e, _⟩ <;> simp only [Value.slice.injEq] at e <;> exact e.2.1
  rcases Nat.lt_or_ge j n with h0 | h0
  · rcases h with ⟨_, _, e, rfl⟩ | ⟨b, off, c, e, h1, h2, h3, h4, h5⟩
    · simp at hn; omega
    · simp only [Value.slice.injEq] at e
      obtain ⟨rfl, -, rfl⟩ := e
      rw [if_neg (by omega)]
      refine .inr ⟨b, off + j * k, cap - j, ?_, by rw [List.length_drop]; omega, by rw [List.length_drop]; omega, by omega, h4, fun i m x hx hm => ?_⟩
      · rw [List.length_drop, ← hn]; simp [add_at]
      · rw [List.getElem?_drop] at hx
        have := h5 (j + i) m x hx hm
        rwa [Nat.add_mul, ← Nat.add_assoc] at this
  · obtain rfl : j = n := by omega
    rw [Nat.sub_self]
    exact .inl ⟨_, _, rfl, List.drop_of_length_le (by omega)⟩
/-- the first j of a slice, as 's[:j]' tells them. -/
theorem RdK.takeC {α : Type} {enc : α → List Value} {k : Nat} {w : World} {a : Option Addr} {n cap : Nat} {xs : List α} (h : RdK enc k w (.slice a n cap) xs) (j : Nat) (hj : j ≤ n) : RdK enc k w (.slice a j cap) (xs.take j) := by
  rcases Nat.eq_zero_or_pos j with rfl | h0
  · exact .inl ⟨_, _, rfl, by simp⟩
  · rcases h with ⟨_, _, e, rfl⟩ | ⟨b, off, c, e, h1, h2, h3, h4, h5⟩
    · simp only [Value.slice.injEq] at e; omega
    · simp only [Value.slice.injEq] at e
      obtain ⟨rfl, rfl, rfl⟩ := e
      have hl : (xs.take j).length = j := by rw [List.length_take]; omega
      refine .inr ⟨b, off, cap, by rw [hl], by omega, by omega, h3, h4, fun i m x hx hm => h5 i m x ?_ hm⟩
      rw [List.getElem?_take] at hx
      split at hx
      · exact hx
      · cases hx
/-- 'append(s, x)', x in a block that was just laid; H: that block's number as the walk spells it; guarded or not. -/
theorem wp_appHK {α : Type} {enc : α → List Value} {P : Program} {ops : Array Oper} {rest : List Oper} {o : Oper} {a : Act} {w : World} {Q : Exit → Act → World → Prop} {t E k bytes : Nat} {z : Value} (F : ElemK P t E k bytes z) (hk : EncK enc k)
    (s x : Operand) (ho : o.op = .call { callee := .builtin .append, args := #[s, x], argTypes := #[t, t] }) (hw : Region.wanted o (yielded ops a.tmps) = true)
    {B : Nat} {v : Value} {xs : List α} (hs : a.eval s = v) (hown : OwnK enc k E B w v xs) (y : α) (H : Nat) (hx : a.eval x = .slice (some ⟨H, 0, none⟩) 1 1)
    (hH : w.heap.size = H) (h1 : ∀ u ∈ enc y, u.oneCell' = true) (hlen : (xs.length + 1) * bytes ≤ 140737488355328) (hm : xs.length + 1 ≤ maxLen) (hB : B ≤ w.heap.size)
    (h : ∀ v' w', OwnK enc k E B w' v' (xs ++ [y]) → Below B w w' → wpList P ops Q rest (a.put o.dst v') w') : wpList P ops Q (o :: rest) a (w.alloc (.cells (enc y).toArray E)) := by
  subst hH
  refine wpList_step fun K hK => ?_
  rw [if_pos hw]
  obtain ⟨v', w', hr, h2, h3⟩ := run_appK (ty := o.type) (w := w.alloc (.cells (enc y).toArray E)) F hk (hown.below ((Below.refl _ w).alloc (Nat.le_refl _) _)) ((own_oneK (E := E) hk w y).rd hk) (by simpa using h1) (by simpa using hlen) (by simpa using hm) (by simp; omega)
  unfold Oper.wp execOp
  simp only [ho, resolve, invoke, builtin, Sem.run_bind, Sem.run_pure, Result.andThen_ok, List.map_toArray, List.map_cons, List.map_nil, hs, hx, hr]
  exact hK _ _ (h v' w' h2 (((Below.refl B w).alloc hB _).trans h3))
end Go.Proofs.Ytpaoabdjbdlalaa
