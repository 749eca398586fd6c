/- 'append(s, us...)' onto a slice of the call's own, from whatever slice that may be read: nil, empty or not; guarded or not. -/
import Derived.Test.YtpaoabdjbdlalaaSlices
import Derived.Laws.AppendOwnNone
namespace Go.Proofs.Ytpaoabdjbdlalaa
set_option linter.unusedVariables false
open Go.RowKit
theorem run_app_nil {P : Program} {t ty E : Nat} {i : TypeInfo} (ht : P.underlying t = some (.slice E)) (hi : P.info? E = some i) {B : Nat} {w : World} {v : Value} {vs : List Value} (h : OwnV E B w v vs) (c : Nat) :
    (Builtin.append_ #[t, t] ty #[v, .slice none 0 c]).run P w = .ok v w := by
  rcases h.nilOr with ⟨rfl, -⟩ | ⟨g, cap, rfl, -, -, hc, -⟩
  · simp [Builtin.append_, run_underlying ht, sizeOf, typeInfo, hi, Builtin.lenOf, Builtin.firstCells]
  · simp [Builtin.append_, run_underlying ht, sizeOf, typeInfo, hi, Builtin.lenOf, Builtin.firstCells, hc, storeCells]
theorem run_appS {P : Program} {t E bytes ty : Nat} {z : Value} (F : ElemOk P t E bytes z) {B : Nat} {w : World} {v : Value} {vs : List Value} (hown : OwnV E B w v vs) {src : Value} {us : List Value} (hs : RdV w src us)
    (h1 : ∀ u ∈ us, u.oneCell' = true) (hlen : (vs.length + us.length) * bytes ≤ 140737488355328) (hm : vs.length + us.length ≤ maxLen) (hB : B ≤ w.heap.size) :
    ∃ v' w', (Builtin.append_ #[t, t] ty #[v, src]).run P w = .ok v' w' ∧ OwnV E B w' v' (vs ++ us) ∧ Below B w w' := by
  obtain ⟨f1, f2, f3⟩ := F
  obtain ⟨i0, hi, hz0, hz1, hz2⟩ := info_parts f2
  have hsome : ∀ (ad : Addr) (m c : Nat), m = us.length → (∀ j u, us[j]? = some u → w.cell? (ad.add j) = some u) →
      ∃ v' w', (Builtin.append_ #[t, t] ty #[v, .slice (some ad) m c]).run P w = .ok v' w' ∧ OwnV E B w' v' (vs ++ us) ∧ Below B w w' := by
    intro ad m c e hc
    obtain ⟨v', w', g0, g1, g2, -⟩ := run_append_own w B t ty E i0 z 1 bytes f1 hi hz0 hz1 hz2 f3 (by decide) v vs.length vs hown ad m c us (by omega) hc h1 (by omega) (by subst e; exact hlen) hB
    refine ⟨v', w', g0, ?_, ?_⟩
    · unfold OwnV; rw [List.length_append, ← e]; exact g1
    · exact (Below.refl B w).grown g2 hB fun k hk => (World.ownsRow.lt hown k hk).1
  rcases hs with ⟨a, cap, rfl, rfl⟩ | ⟨b, off, cap, rfl, h2, h3, h4, h5, h6⟩
  · cases a with
    | none => exact ⟨v, w, run_app_nil f1 hi hown cap, by rw [List.append_nil]; exact hown, Below.refl _ _⟩
    | some ad => exact hsome ad 0 cap rfl (fun j u h => by simp at h)
  · refine hsome ⟨b, off, none⟩ us.length cap rfl fun j u hj => ?_
    have e : (⟨b, off, none⟩ : Addr).add j = ⟨b, off + j, none⟩ := by unfold Addr.add; split <;> simp_all
    obtain ⟨hlt, hget⟩ := List.getElem?_eq_some_iff.1 hj
    rw [e, h6 j hlt, List.getD_eq_getElem?_getD, hj]; rfl
theorem wp_appS {P : Program} {ops : Array Oper} {rest : List Oper} {o : Oper} {a : Act} {w : World} {Q : Exit → Act → World → Prop} {t E bytes : Nat} {z : Value} (F : ElemOk P t E bytes z)
    (s x : Operand) (ho : o.op = .call { callee := .builtin .append, args := #[s, x], argTypes := #[t, t] }) (hw : Region.wanted o (yielded ops a.tmps) = true)
    {B : Nat} {v : Value} {vs : List Value} (hs : a.eval s = v) (hown : OwnV E B w v vs) {src : Value} {us : List Value} (hx : a.eval x = src) (hrd : RdV w src us)
    (h1 : ∀ u ∈ us, u.oneCell' = true) (hlen : (vs.length + us.length) * bytes ≤ 140737488355328) (hm : vs.length + us.length ≤ maxLen) (hB : B ≤ w.heap.size)
    (h : ∀ v' w', OwnV E B w' v' (vs ++ us) → Below B w w' → wpList P ops Q rest (a.put o.dst v') w') : wpList P ops Q (o :: rest) a w := by
  refine wpList_step fun K hK => ?_
  rw [if_pos hw]
  obtain ⟨v', w', hr, h2, h3⟩ := run_appS (ty := o.type) F hown hrd h1 hlen hm hB
  unfold Oper.wp execOp
  simp only [ho, resolve, invoke, builtin, Sem.run_bind, Sem.run_pure, Result.andThen_ok, List.map_toArray, List.map_cons, List.map_nil, hs, hx, hr]
  exact hK _ _ (h v' w' h2 h3)
/-- 'append(s, news..)', the news in a block that was just laid; H: that block's number as the walk spells it; guarded or not. -/
theorem wp_appH {P : Program} {ops : Array Oper} {rest : List Oper} {o : Oper} {a : Act} {w : World} {Q : Exit → Act → World → Prop} {t E bytes : Nat} {z : Value} (F : ElemOk P t E bytes z)
    (s x : Operand) (ho : o.op = .call { callee := .builtin .append, args := #[s, x], argTypes := #[t, t] }) (hw : Region.wanted o (yielded ops a.tmps) = true)
    {B : Nat} {v : Value} {vs : List Value} (hs : a.eval s = v) (hown : OwnV E B w v vs) (news : List Value) (n H : Nat) (hn : news.length = n) (hx : a.eval x = .slice (some ⟨H, 0, none⟩) n n)
    (hH : w.heap.size = H) (h0 : 0 < n) (h1 : ∀ u ∈ news, u.oneCell' = true) (hlen : (vs.length + n) * bytes ≤ 140737488355328) (hm : vs.length + n ≤ maxLen) (hB : B ≤ w.heap.size)
    (h : ∀ v' w', OwnV E B w' v' (vs ++ news) → Below B w w' → wpList P ops Q rest (a.put o.dst v') w') : wpList P ops Q (o :: rest) a (w.alloc (.cells news.toArray E)) := by
  subst hH hn
  refine wp_appS F s x ho hw hs (OwnV.below hown ((Below.refl _ w).alloc (Nat.le_refl _) (.cells news.toArray E))) hx ?_ h1 hlen hm (by simp; omega) fun v' w' g1 g2 => h v' w' g1 (((Below.refl B w).alloc hB _).trans g2)
  refine .inr ⟨w.heap.size, 0, news.length, rfl, h0, Nat.le_refl _, by omega, by simp, fun i hi => ?_⟩
  unfold World.cell?
  rw [heap_alloc_new]
  rw [List.getD_eq_getElem?_getD, List.getElem?_eq_getElem hi]
  simp [List.getElem?_eq_getElem hi]
end Go.Proofs.Ytpaoabdjbdlalaa
