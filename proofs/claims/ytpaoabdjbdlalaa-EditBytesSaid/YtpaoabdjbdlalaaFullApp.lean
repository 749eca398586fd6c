/- 'append(s, us...)' where s has no room ('s[:k:k]'): always a new row; a slice cut in two as slices that may be read. -/
import Derived.Test.YtpaoabdjbdlalaaSlices
import Derived.Test.YtpaoabdjbdlalaaSrc
namespace Go.Proofs.Ytpaoabdjbdlalaa
set_option linter.unusedVariables false
open Go.RowKit
theorem add_at (b off j : Nat) : (⟨b, off, none⟩ : Addr).add j = ⟨b, off + j, none⟩ := by unfold Addr.add; split <;> simp_all
theorem run_appF {P : Program} {t E bytes ty : Nat} {z : Value} (F : ElemOk P t E bytes z) {B : Nat} {w : World} {v : Value} {vs : List Value} (hv : RdV w v vs) {a : Option Addr} (hfull : v = .slice a vs.length vs.length) (hnil : a = none → vs = [])
    {src : Value} {us : List Value} (hs : RdV w src us) (h0 : us ≠ []) (hlen : (vs.length + us.length) * bytes ≤ 140737488355328) (hm : vs.length + us.length ≤ maxLen) (hB : B ≤ w.heap.size) :
    ∃ v' w', (Builtin.append_ #[t, t] ty #[v, src]).run P w = .ok v' w' ∧ OwnV E B w' v' (vs ++ us) ∧ Below w.heap.size w w' := by
  obtain ⟨f1, f2, f3⟩ := F
  obtain ⟨i0, hi, hz0, hz1, hz2⟩ := info_parts f2
  have hup := List.length_pos_iff.2 h0
  obtain ⟨b, off, cap, rfl, s2, s3, s4, s5, s6⟩ : ∃ b off cap, src = .slice (some ⟨b, off, none⟩) us.length cap ∧ 0 < us.length ∧ us.length ≤ cap ∧ cap ≤ maxLen ∧ b < w.heap.size ∧ ∀ i, i < us.length → w.cell? ⟨b, off + i, none⟩ = some (us.getD i undef) := by
    rcases hs with ⟨_, _, _, e⟩ | h
    · exact absurd e h0
    · exact h
  have hnews : ∀ j u, us[j]? = some u → w.cell? ((⟨b, off, none⟩ : Addr).add j) = some u := fun j u hj => by
    obtain ⟨hlt, hget⟩ := List.getElem?_eq_some_iff.1 hj
    rw [add_at, s6 j hlt, List.getD_eq_getElem?_getD, hj]; rfl
  have hmm : vs.length + us.length ≤ 9223372036854775807 := by simp only [maxLen] at hm; omega
  have grown : ∀ (need old : Nat), need = vs.length + us.length → OwnV E B (w.drew.alloc (.cells (vs.toArray ++ us.toArray ++ Builtin.zeroCells z.cells (grownCap w need old E - need)) E)) (.slice (some ⟨w.heap.size, 0, none⟩) need (grownCap w need old E)) (vs ++ us) ∧
      Below w.heap.size w (w.drew.alloc (.cells (vs.toArray ++ us.toArray ++ Builtin.zeroCells z.cells (grownCap w need old E - need)) E)) := by
    intro need old e
    have hge := grownCap_ge w need old E
    have hcm : grownCap w need old E ≤ maxLen := grownCap_le_maxLen w need old E (by omega)
    refine ⟨⟨(Nat.mul_one _).symm, .inr ⟨w.heap.size, grownCap w need old E, _, by rw [List.length_append, ← e], hB, heap_alloc_new w.drew _, by rw [List.length_append]; omega, hcm, ?_, ?_⟩⟩, (Below.refl _ w).drew.alloc (Nat.le_refl _) _⟩
    · simp only [Array.size_append, List.size_toArray, size_zeroCells, f3]; omega
    · simp only [Array.toList_append, Nat.mul_one]
      rw [List.take_left' rfl]
  cases a with
  | none =>
    obtain rfl := hnil rfl
    subst hfull
    have hr := run_append_nil (P := P) w t ty E i0 z f1 hi hz0 ⟨b, off, none⟩ us.length cap us (by rw [hz1, Nat.mul_one]) hnews (by omega) (by omega) (by rw [hz2]; simp only [List.length_nil, Nat.zero_add] at hlen; omega)
    obtain ⟨g1, g2⟩ := grown us.length 0 (by simp)
    refine ⟨_, _, hr, ?_, ?_⟩
    · simpa using g1
    · simpa using g2
  | some ad =>
    subst hfull
    have hold : ∀ j u, vs[j]? = some u → w.cell? (ad.add j) = some u := fun j u hj => by
      obtain ⟨hlt, hget⟩ := List.getElem?_eq_some_iff.1 hj
      rcases hv with ⟨_, _, _, e⟩ | ⟨b', off', cap', e1, _, _, _, _, e6⟩
      · subst e; simp at hlt
      · simp only [Value.slice.injEq, Option.some.injEq] at e1
        obtain ⟨rfl, -⟩ := e1
        rw [add_at, e6 j hlt, List.getD_eq_getElem?_getD, hj]; rfl
    have hr := run_append_grow (P := P) w t ty E i0 z f1 hi hz0 ad vs.length vs.length vs (by rw [hz1, Nat.mul_one]) hold ⟨b, off, none⟩ us.length cap us (by rw [hz1, Nat.mul_one]) hnews (by omega) (by omega) (by rw [hz2]; exact growslice_fits (by omega) hlen)
    obtain ⟨g1, g2⟩ := grown (vs.length + us.length) vs.length rfl
    exact ⟨_, _, hr, g1, g2⟩
/-- the first k of a slice of the call's own, as 's[:k:k]' tells them. -/
theorem OwnV.front {E B : Nat} {w : World} {a : Option Addr} {n cap : Nat} {vs : List Value} (h : OwnV E B w (.slice a n cap) vs) (k : Nat) (hk : k ≤ n) :
    RdV w (.slice a k k) (vs.take k) ∧ (vs.take k).length = k ∧ (a = none → vs.take k = []) := by
  have hn : n = vs.length := by
    rcases h.rd with ⟨_, _, e, rfl⟩ | ⟨_, _, _, e, _⟩ <;> simp only [Value.slice.injEq] at e <;> exact e.2.1
  have hl : (vs.take k).length = k := by rw [List.length_take]; omega
  rcases Nat.eq_zero_or_pos k with h0 | h0
  · subst h0; exact ⟨.inl ⟨a, 0, rfl, by simp⟩, hl, fun _ => by simp⟩
  · rcases h.rd with ⟨_, _, e, rfl⟩ | ⟨b, off, c, e, h1, h2, h3, h4, h5⟩
    · simp at hn; omega
    · simp only [Value.slice.injEq] at e
      obtain ⟨rfl, rfl, rfl⟩ := e
      refine ⟨.inr ⟨b, off, k, by rw [hl], by omega, by omega, by omega, h4, fun i hi => ?_⟩, hl, fun h => by cases h⟩
      rw [hl] at hi
      rw [h5 i (by omega), List.getD_eq_getElem?_getD, List.getD_eq_getElem?_getD, List.getElem?_take_of_lt hi]
/-- what is behind the first k, as 's[k:]' tells it. -/
theorem OwnV.rest {E B : Nat} {w : World} {a : Option Addr} {n cap : Nat} {vs : List Value} (h : OwnV E B w (.slice a n cap) vs) (k : Nat) (hk : k ≤ n) :
    RdV w (.slice (if cap = k then a else a.map (·.add k)) (n - k) (cap - k)) (vs.drop k) := by
  have hn : n = vs.length := by
    rcases h.rd with ⟨_, _, e, rfl⟩ | ⟨_, _, _, e, _⟩ <;> simp only [Value.slice.injEq] at e <;> exact e.2.1
  rcases Nat.lt_or_ge k n with h0 | h0
  · rcases h.rd with ⟨_, _, e, rfl⟩ | ⟨b, off, c, e, h1, h2, h3, h4, h5⟩
    · simp at hn; omega
    · simp only [Value.slice.injEq] at e
      obtain ⟨rfl, -, rfl⟩ := e
      rw [if_neg (by omega)]
      refine .inr ⟨b, off + k, cap - k, ?_, by rw [List.length_drop]; omega, by rw [List.length_drop]; omega, by omega, h4, fun i hi => ?_⟩
      · rw [List.length_drop, ← hn]; simp [add_at]
      · rw [List.length_drop] at hi
        rw [Nat.add_assoc, h5 (k + i) (by omega), List.getD_eq_getElem?_getD, List.getD_eq_getElem?_getD, List.getElem?_drop]
  · obtain rfl : k = n := by omega
    rw [Nat.sub_self]
    exact .inl ⟨_, _, rfl, List.drop_of_length_le (by omega)⟩
/-- 'append' as one step of a region, by what it gives. -/
theorem step_app {P : Program} {ops : Array Oper} {o : Oper} {a : Act} {w : World} {K : Act → World → Prop} {Q : Exit → Act → World → Prop} {E : Prop} (hw : Region.wanted o (yielded ops a.tmps) = true)
    (s x : Operand) (t : TypeId) (ho : o.op = Op.call { callee := Callee.builtin Builtin.append, args := #[s, x], argTypes := #[t, t] }) {v src v' : Value} {w' : World} (hs : a.eval s = v) (hx : a.eval x = src)
    (hr : (Builtin.append_ #[t, t] o.type #[v, src]).run P w = .ok v' w') (hK : K (a.put o.dst v') w') : if Region.wanted o (yielded ops a.tmps) = true then Oper.wp P o a w K Q else E := by
  rw [if_pos hw]
  unfold Oper.wp execOp
  simp only [ho, resolve, invoke, builtin, Sem.run_bind, Sem.run_pure, Result.andThen_ok, List.map_toArray, List.map_cons, List.map_nil, hs, hx, hr]
  exact hK
/-- the same, the slot that it writes named. -/
theorem step_appD {P : Program} {ops : Array Oper} {o : Oper} {a : Act} {w : World} {K : Act → World → Prop} {Q : Exit → Act → World → Prop} {E : Prop} (d : Nat) (hd : o.dst = some d) (hw : Region.wanted o (yielded ops a.tmps) = true)
    (s x : Operand) (t : TypeId) (ho : o.op = Op.call { callee := Callee.builtin Builtin.append, args := #[s, x], argTypes := #[t, t] }) {v src v' : Value} {w' : World} (hs : a.eval s = v) (hx : a.eval x = src)
    (hr : (Builtin.append_ #[t, t] o.type #[v, src]).run P w = .ok v' w') (hK : K (a.put (some d) v') w') : if Region.wanted o (yielded ops a.tmps) = true then Oper.wp P o a w K Q else E :=
  step_app hw s x t ho hs hx hr (by rw [hd]; exact hK)
theorem getD_strs (ls : List ByteArray) (k : Nat) (hk : k < ls.length) : (ls.map Value.string).getD k undef = .string (ls.getD k ByteArray.empty) := by
  rw [List.getD_eq_getElem?_getD, List.getD_eq_getElem?_getD, List.getElem?_map, List.getElem?_eq_getElem hk]; rfl
/-- A slice of strings that came in, read as a list. -/
theorem rd_opens {w : World} {x : Addr} {len cap : Nat} {ss : List ByteArray} (hl : len ≤ cap) (hm : cap ≤ maxLen) (hz : ss.length = cap) (hc : ∀ i, i < ss.length → w.cell? (x.add i) = some (.string (ss.getD i ByteArray.empty))) :
    RdV w (.slice (some x) len cap) ((ss.take len).map Value.string) := by
  rcases Nat.eq_zero_or_pos len with h0 | h0
  · subst h0; exact .inl ⟨_, cap, rfl, by simp⟩
  · obtain ⟨b, off, spot⟩ := x
    have hspot : spot = none := by simpa [Addr.add] using World.cell?_spot (hc 0 (by omega))
    subst hspot
    have hlen : ((ss.take len).map Value.string).length = len := by rw [List.length_map, List.length_take]; omega
    refine .inr ⟨b, off, cap, by rw [hlen], by omega, by omega, hm, ?_, fun i hi => ?_⟩
    · have := hc 0 (by omega)
      rw [add_at] at this
      exact World.block_lt_of_cell? w _ this
    · rw [hlen] at hi
      have := hc i (by omega)
      rw [add_at] at this
      rw [this, getD_strs _ i (by rw [List.length_take]; omega)]
      rw [List.getD_eq_getElem?_getD, List.getD_eq_getElem?_getD, List.getElem?_take_of_lt hi]
end Go.Proofs.Ytpaoabdjbdlalaa
