/- Rows of rows of bytes that are the call's own, each apart. -/
import Derived.Test.YtdnohjhknhekhaaDoorGrow
namespace Go.Proofs.YtdnohjhknhekhaaDoor
set_option linter.unusedVariables false
open Go.RowKit
/-- v is a row of the call's own (blocks from B on) that holds these, each a slice of the call's own. -/
def RecsAt (B : Nat) (w : World) (v : Value) (bss : List (List UInt8)) : Prop :=
  ∃ vs : List Value, OwnV 23 B w v vs ∧ vs.length = bss.length ∧ ∀ (i : Nat) (u : Value) (bs : List UInt8), vs[i]? = some u → bss[i]? = some bs → OwnB B w u bs
theorem RecsAt.nil (B : Nat) (w : World) : RecsAt B w (.slice none 0 0) [] := ⟨[], OwnV.nil _ _ _, rfl, fun i u bs h => by simp at h⟩
theorem RecsAt.below {B : Nat} {w w' : World} {v : Value} {bss : List (List UInt8)} (h : RecsAt B w v bss) (hb : Below w.heap.size w w') : RecsAt B w' v bss := by
  obtain ⟨vs, h1, h2, h3⟩ := h
  exact ⟨vs, h1.below hb, h2, fun i u bs hu hb' => (h3 i u bs hu hb').below hb⟩
theorem RecsAt.base {B B' : Nat} {w : World} {v : Value} {bss : List (List UInt8)} (h : RecsAt B w v bss) (hB : B' ≤ B) : RecsAt B' w v bss := by
  obtain ⟨vs, h1, h2, h3⟩ := h
  exact ⟨vs, h1.base hB, h2, fun i u bs hu hb' => (h3 i u bs hu hb').base hB⟩
theorem RecsAt.form {B : Nat} {w : World} {v : Value} {bss : List (List UInt8)} (h : RecsAt B w v bss) : ∃ a cap, v = .slice a bss.length cap ∧ bss.length ≤ cap ∧ cap ≤ maxLen := by
  obtain ⟨vs, h1, h2, -⟩ := h
  rcases h1.nilOr with ⟨rfl, e⟩ | ⟨g, cap, rfl, -, -, hc, hm⟩
  · subst e
    exact ⟨none, 0, by rw [← h2]; rfl, by rw [← h2]; exact Nat.le_refl _, by unfold maxLen; omega⟩
  · exact ⟨_, cap, by rw [← h2], by omega, hm⟩
/-- The cell of one of them, and what it holds. -/
theorem RecsAt.at {B : Nat} {w : World} {a : Option Addr} {n cap : Nat} {bss : List (List UInt8)} (h : RecsAt B w (.slice a n cap) bss) (i : Nat) (bs : List UInt8) (hi : bss[i]? = some bs) :
    ∃ g u, a = some ⟨g, 0, none⟩ ∧ g < w.heap.size ∧ w.cell? ⟨g, 0 + i, none⟩ = some u ∧ OwnB B w u bs := by
  obtain ⟨vs, h1, h2, h3⟩ := h
  have hlt : i < vs.length := by rw [h2]; exact (List.getElem?_eq_some_iff.1 hi).1
  have hu : vs[i]? = some vs[i] := List.getElem?_eq_getElem hlt
  obtain ⟨g, off, rfl, hg, hc⟩ := rdV_cells h1.rd (by omega)
  rcases h1.nilOr with ⟨e, -⟩ | ⟨g', cap', e, -⟩
  · cases e
  · simp only [Value.slice.injEq, Option.some.injEq, Addr.mk.injEq, and_true] at e
    obtain ⟨⟨rfl, rfl⟩, -⟩ := e
    refine ⟨g, vs[i], rfl, hg, ?_, h3 i _ _ hu hi⟩
    rw [hc i hlt, List.getD_eq_getElem?_getD, hu]; rfl
/-- A row of slices is no row of bytes. -/
theorem own_apart {B B' : Nat} {w : World} {v u : Value} {vs : List Value} {bs : List UInt8} (h : OwnV 23 B w v vs) (h' : OwnB B' w u bs) : ∀ g, u.ownBlock = some g → v.ownBlock ≠ some g := by
  intro g hg hv
  rcases h.2 with ⟨rfl, -⟩ | ⟨g1, c1, cur1, rfl, -, k1, -⟩
  · cases hv
  · rcases h'.2 with ⟨rfl, -⟩ | ⟨g2, c2, cur2, rfl, -, k2, -⟩
    · cases hg
    · obtain rfl : g1 = g := Option.some.inj hv
      obtain rfl : g2 = g1 := Option.some.inj hg
      rw [k1] at k2
      simp only [Option.some.injEq, Obj.cells.injEq] at k2
      exact absurd k2.2.1 (by decide)
theorem elemK_bs : ElemK Tryd.prog 25 23 1 24 (.slice none 0 0) := ⟨Tryd.underlying25, by kernel_rfl, rfl, by decide⟩
/-- 'append(l, b)', b in a row that was just laid. -/
theorem run_appR {ty : Nat} {B : Nat} {w : World} {v u : Value} {bss : List (List UInt8)} {bs : List UInt8} (h : RecsAt B w v bss) (hu : OwnB B w u bs) (hlen : bss.length ≤ 1000000000000) (hB : B ≤ w.heap.size) :
    ∃ v' w', (Builtin.append_ #[25, 25] ty #[v, .slice (some ⟨w.heap.size, 0, none⟩) 1 1]).run Tryd.prog (w.alloc (.cells #[u] 23)) = .ok v' w' ∧ RecsAt B w' v' (bss ++ [bs]) ∧ Below B w w' ∧ (∀ B' y l, OwnB B' w y l → OwnB B' w' y l) := by
  obtain ⟨vs, h1, h2, h3⟩ := h
  have hal : Below w.heap.size w (w.alloc (.cells #[u] 23)) := (Below.refl _ w).alloc (Nat.le_refl _) _
  have hown : (w.alloc (.cells #[u] 23)).ownsRow 0 23 1 v vs.length vs := (h1.below hal).base (Nat.zero_le _)
  have hone : u.oneCell' = true := by
    obtain ⟨a, len, cap, rfl, -⟩ := hu.form; rfl
  have hcell : ∀ j x, [u][j]? = some x → (w.alloc (.cells #[u] 23)).cell? ((⟨w.heap.size, 0, none⟩ : Addr).add j) = some x := fun j x hj => by
    rw [add_at, Nat.zero_add]
    unfold World.cell?
    rw [heap_alloc_new]
    simpa using hj
  obtain ⟨v', w', g0, g1, g2, g3⟩ := run_appG (ty := ty) elemK_bs hown ⟨w.heap.size, 0, none⟩ 1 1 [u] rfl hcell (by simpa using hone) (by unfold maxLen; omega) (by omega)
  have hwh : ∀ g, v.ownBlock = some g → B ≤ g ∧ g < w.heap.size := fun g hg => h1.where g hg
  have hkeep : ∀ B' y l, OwnB B' w y l → OwnB B' w' y l := fun B' y l hy => (hy.below hal).kept g2 (own_apart h1 hy)
  refine ⟨v', w', g0, ⟨vs ++ [u], ?_, by simp [h2], ?_⟩, ?_, hkeep⟩
  · have g1' : OwnV 23 0 w' v' (vs ++ [u]) := by unfold OwnV; rw [List.length_append]; exact g1
    refine g1'.rebase fun g hg => ?_
    rcases g3 g hg with h5 | h5
    · exact (hwh g h5).1
    · have := hal.size; omega
  · intro i x y hx hy
    rcases Nat.lt_or_ge i vs.length with hi | hi
    · rw [List.getElem?_append_left hi] at hx
      rw [List.getElem?_append_left (by omega)] at hy
      exact hkeep _ _ _ (h3 i x y hx hy)
    · rw [List.getElem?_append_right hi] at hx
      rw [List.getElem?_append_right (by omega), ← h2] at hy
      obtain ⟨h0, e⟩ := List.getElem?_eq_some_iff.1 hx
      have h0' : i - vs.length = 0 := by simpa using h0
      rw [h0'] at hx hy
      simp at hx hy
      subst hx hy
      exact hkeep _ _ _ hu
  · exact (hal.mono hB).grown g2 (by rw [World.size_alloc]; omega) fun k hk => (hwh k hk).1
theorem wp_appR {ops : Array Oper} {rest : List Oper} {o : Oper} {a : Act} {w : World} {Q : Exit → Act → World → Prop} (s x : Operand) (ho : o.op = .call { callee := .builtin .append, args := #[s, x], argTypes := #[25, 25] }) (hw : Region.wanted o (yielded ops a.tmps) = true)
    {B : Nat} {v u : Value} {bss : List (List UInt8)} {bs : List UInt8} (hs : a.eval s = v) (h : RecsAt B w v bss) (hu : OwnB B w u bs) (H : Nat) (hx : a.eval x = .slice (some ⟨H, 0, none⟩) 1 1) (hH : w.heap.size = H) (hlen : bss.length ≤ 1000000000000) (hB : B ≤ w.heap.size)
    (hk : ∀ v' w', RecsAt B w' v' (bss ++ [bs]) → Below B w w' → (∀ B' y l, OwnB B' w y l → OwnB B' w' y l) → wpList Tryd.prog ops Q rest (a.put o.dst v') w') : wpList Tryd.prog ops Q (o :: rest) a (w.alloc (.cells #[u] 23)) := by
  refine wpList_step fun K hK => ?_
  rw [if_pos hw]
  subst hH
  obtain ⟨v', w', hr, h2, h3, h4⟩ := run_appR (ty := o.type) h hu hlen hB
  unfold Oper.wp execOp
  simp only [ho, resolve, invoke, builtin, Sem.run_bind, Sem.run_pure, Result.andThen_ok, List.map_toArray, List.map_cons, List.map_nil, hs, hx, hr]
  exact hK _ _ (hk v' w' h2 h3 h4)
end Go.Proofs.YtdnohjhknhekhaaDoor
