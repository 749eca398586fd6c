/- Slices of one-cell values: what a slice that may be read says of the world, what a slice of the call's own says, and append's law in these words. -/
import Derived.Test.YtpaoabdjbdlalaaBits
import Derived.OwnWalk
import Derived.Deep.QuietTactic
import Derived.Laws.AppendOwn
namespace Go.Proofs.Ytpaoabdjbdlalaa
set_option linter.unusedVariables false
open Go.RowKit

/-- v is a slice of the call's own (blocks from B on) that holds vs. -/
def OwnV (E B : Nat) (w : World) (v : Value) (vs : List Value) : Prop := w.ownsRow B E 1 v vs.length vs
/-- v is a slice that reads as vs. -/
def RdV (w : World) (v : Value) (vs : List Value) : Prop :=
  (∃ a cap, v = .slice a 0 cap ∧ vs = []) ∨
  ∃ b off cap, v = .slice (some ⟨b, off, none⟩) vs.length cap ∧ 0 < vs.length ∧ vs.length ≤ cap ∧ cap ≤ maxLen ∧ b < w.heap.size ∧ ∀ i, i < vs.length → w.cell? ⟨b, off + i, none⟩ = some (vs.getD i undef)

theorem RdV.below {w w' : World} {v : Value} {vs : List Value} (h : RdV w v vs) (hb : Below w.heap.size w w') : RdV w' v vs := by
  rcases h with h | ⟨b, off, cap, h1, h2, h3, h4, h5, h6⟩
  · exact .inl h
  · exact .inr ⟨b, off, cap, h1, h2, h3, h4, Nat.lt_of_lt_of_le h5 hb.size, fun i hi => by rw [hb.cell h5]; exact h6 i hi⟩
theorem RdV.nil (w : World) (a : Option Addr) (cap : Nat) : RdV w (.slice a 0 cap) [] := .inl ⟨a, cap, rfl, rfl⟩

theorem OwnV.nil (E B : Nat) (w : World) : OwnV E B w (.slice none 0 0) [] := World.ownsRow_nil w B E 1
theorem OwnV.below {E B : Nat} {w w' : World} {v : Value} {vs : List Value} (h : OwnV E B w v vs) (hb : Below w.heap.size w w') : OwnV E B w' v vs := by
  obtain ⟨h1, h2⟩ := h
  refine ⟨h1, ?_⟩
  rcases h2 with h2 | ⟨g, cap, cur, e1, e2, e3, e4⟩
  · exact .inl h2
  · refine .inr ⟨g, cap, cur, e1, e2, ?_, e4⟩
    have hg : g < w.heap.size := by
      rcases Nat.lt_or_ge g w.heap.size with h | h
      · exact h
      · rw [Array.getElem?_eq_none h] at e3; cases e3
    rw [hb.block g hg]; exact e3
theorem OwnV.drew {E B : Nat} {w : World} {v : Value} {vs : List Value} (h : OwnV E B w v vs) : OwnV E B w.drew v vs := h
theorem OwnV.base {E B B' : Nat} {w : World} {v : Value} {vs : List Value} (h : OwnV E B w v vs) (hB : B' ≤ B) : OwnV E B' w v vs := by
  obtain ⟨h1, h2⟩ := h
  refine ⟨h1, ?_⟩
  rcases h2 with h2 | ⟨g, cap, cur, e1, e2, e3⟩
  · exact .inl h2
  · exact .inr ⟨g, cap, cur, e1, Nat.le_trans hB e2, e3⟩
theorem OwnV.rd {E B : Nat} {w : World} {v : Value} {vs : List Value} (h : OwnV E B w v vs) : RdV w v vs := by
  obtain ⟨h1, h2⟩ := h
  rcases h2 with ⟨e1, e2⟩ | ⟨g, cap, cur, e1, e2, e3, e4, e5, e6, e7⟩
  · exact .inl ⟨none, 0, by rw [e1], List.eq_nil_of_length_eq_zero e2⟩
  · rcases Nat.eq_zero_or_pos vs.length with h0 | h0
    · exact .inl ⟨_, cap, by rw [e1, h0], List.eq_nil_of_length_eq_zero h0⟩
    · have hg : g < w.heap.size := by
        rcases Nat.lt_or_ge g w.heap.size with h | h
        · exact h
        · rw [Array.getElem?_eq_none h] at e3; cases e3
      refine .inr ⟨g, 0, cap, e1, h0, e4, e5, hg, fun i hi => ?_⟩
      have hc : cur[i]? = some (vs.getD i undef) := by
        have h7 : cur.toList[i]? = vs[i]? := by
          conv => rhs; rw [← e7]
          rw [List.getElem?_take, if_pos (by omega)]
        rw [Array.getElem?_toList] at h7
        rw [h7, List.getD_eq_getElem?_getD, List.getElem?_eq_getElem hi]; rfl
      unfold World.cell?
      simp only [e3, Nat.zero_add, Option.isSome_none, Bool.false_eq_true, if_false]
      exact hc
theorem OwnV.nilOr {E B : Nat} {w : World} {v : Value} {vs : List Value} (h : OwnV E B w v vs) : (v = .slice none 0 0 ∧ vs = []) ∨ ∃ g cap, v = .slice (some ⟨g, 0, none⟩) vs.length cap ∧ B ≤ g ∧ g < w.heap.size ∧ vs.length ≤ cap ∧ cap ≤ maxLen := by
  obtain ⟨h1, h2⟩ := h
  rcases h2 with ⟨e1, e2⟩ | ⟨g, cap, cur, e1, e2, e3, e4, e5, e6, e7⟩
  · exact .inl ⟨e1, List.eq_nil_of_length_eq_zero e2⟩
  · refine .inr ⟨g, cap, e1, e2, ?_, e4, e5⟩
    rcases Nat.lt_or_ge g w.heap.size with h | h
    · exact h
    · rw [Array.getElem?_eq_none h] at e3; cases e3

/-- What the walk is told of an element type: its number, the slice type's, the zero, the bytes. -/
def ElemOk (P : Program) (t E bytes : Nat) (z : Value) : Prop := P.underlying t = some (.slice E) ∧ (P.info? E).map (fun i => (i.zero, i.size, i.bytes)) = some (some z, 1, bytes) ∧ z.cells.size = 1

/-- 'append(s, news..)' onto a slice of the call's own; the news lie in a block that was just laid. -/
theorem wp_app {P : Program} {ops : Array Oper} {rest : List Oper} {o : Oper} {a : Act} {Q : Exit → Act → World → Prop} {t E bytes : Nat} {z : Value} (F : ElemOk P t E bytes z)
    (s x : Operand) (ho : o.op = .call { callee := .builtin .append, args := #[s, x], argTypes := #[t, t] }) (hgd : o.guard = none)
    {B : Nat} {w : World} {v : Value} {vs : List Value} (hs : a.eval s = v) (hown : OwnV E B w v vs) (news : List Value) (n : Nat) (hn : news.length = n) (hx : a.eval x = .slice (some ⟨w.heap.size, 0, none⟩) n n)
    (h1 : ∀ u ∈ news, u.oneCell' = true) (hlen : (vs.length + news.length) * bytes ≤ 140737488355328) (hm : vs.length + news.length ≤ maxLen) (hB : B ≤ w.heap.size) (h0 : 0 < n)
    (h : ∀ v' w', OwnV E B w' v' (vs ++ news) → Below B w w' → v' ≠ .slice none 0 0 → wpList P ops Q rest (a.put o.dst v') w') : wpList P ops Q (o :: rest) a (w.alloc (.cells news.toArray E)) := by
  obtain ⟨f1, f2, f3⟩ := F
  obtain ⟨i0, hi, hz0, hz1, hz2⟩ := info_parts f2
  have hown2 : (w.alloc (.cells news.toArray E)).ownsRow B E 1 v vs.length vs := World.ownsRow.alloc hown _
  refine wpList_append_own _ hgd s x t ho B E i0 z 1 bytes f1 hi hz0 hz1 hz2 f3 (by decide) v vs.length vs hs hown2 ⟨w.heap.size, 0, none⟩ n n news hx (by omega) ?_ h1 (by omega) (by subst hn; exact hlen) (by simp; omega) ?_
  · intro j u hj
    have e : (⟨w.heap.size, 0, none⟩ : Addr).add j = ⟨w.heap.size, j, none⟩ := by unfold Addr.add; split <;> simp_all
    rw [e]
    unfold World.cell?
    rw [heap_alloc_new]
    simpa using hj
  · intro v' w' g1 g2 g3
    refine h v' w' ?_ ?_ ?_
    · unfold OwnV; rw [List.length_append, hn]; exact g1
    · refine ((Below.refl B w).alloc hB _).grown g2 (by simp; omega) fun k hk => ?_
      exact (World.ownsRow.lt hown k hk).1
    · intro e; have := (g3.1 e).2; omega
/-- w' is w behind some draws. -/
def DrN (w w' : World) : Prop := ∃ m, w' = w.drewN m
theorem DrN.refl (w : World) : DrN w w := ⟨0, rfl⟩
theorem DrN.more {w w' : World} (h : DrN w w') (n : Nat) : DrN w (w'.drewN n) := by obtain ⟨m, rfl⟩ := h; exact ⟨m + n, by rw [World.drewN_drewN]⟩
theorem DrN.cell {w w' : World} (h : DrN w w') (a : Addr) : w'.cell? a = w.cell? a := by obtain ⟨m, rfl⟩ := h; rfl
theorem DrN.below {w w' : World} (h : DrN w w') (B : Nat) : Below B w w' := by obtain ⟨m, rfl⟩ := h; exact ⟨rfl, rfl, rfl, Nat.le_refl _, fun _ _ => rfl⟩
theorem DrN.trans {w w' w'' : World} (h : DrN w w') (k : DrN w' w'') : DrN w w'' := by obtain ⟨m, rfl⟩ := k; exact h.more m
end Go.Proofs.Ytpaoabdjbdlalaa
