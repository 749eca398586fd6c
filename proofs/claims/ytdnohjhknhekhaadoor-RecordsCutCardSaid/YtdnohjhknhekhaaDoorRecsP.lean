/- Rows of rows of bytes that are the call's own, beside bytes that grow (a log): none of them lies where these lie. -/
import Derived.Test.YtdnohjhknhekhaaDoorRecs
namespace Go.Proofs.YtdnohjhknhekhaaDoor
set_option linter.unusedVariables false
open Go.RowKit
/-- v holds these, each a slice of the call's own, none in the block that vl lies in. -/
def RecsP (vl : Value) (B : Nat) (w : World) (v : Value) (bss : List (List UInt8)) : Prop :=
  ∃ vs : List Value, OwnV 23 B w v vs ∧ vs.length = bss.length ∧ ∀ (i : Nat) (u : Value) (bs : List UInt8), vs[i]? = some u → bss[i]? = some bs → OwnB B w u bs ∧ ∀ g, u.ownBlock = some g → vl.ownBlock ≠ some g
theorem RecsP.nil (vl : Value) (B : Nat) (w : World) : RecsP vl B w (.slice none 0 0) [] := ⟨[], OwnV.nil _ _ _, rfl, fun i u bs h => by simp at h⟩
theorem RecsP.recs {vl : Value} {B : Nat} {w : World} {v : Value} {bss : List (List UInt8)} (h : RecsP vl B w v bss) : RecsAt B w v bss := by
  obtain ⟨vs, h1, h2, h3⟩ := h
  exact ⟨vs, h1, h2, fun i u bs hu hb => (h3 i u bs hu hb).1⟩
theorem RecsP.below {vl : Value} {B : Nat} {w w' : World} {v : Value} {bss : List (List UInt8)} (h : RecsP vl B w v bss) (hb : Below w.heap.size w w') : RecsP vl B w' v bss := by
  obtain ⟨vs, h1, h2, h3⟩ := h
  exact ⟨vs, h1.below hb, h2, fun i u bs hu hb' => ⟨(h3 i u bs hu hb').1.below hb, (h3 i u bs hu hb').2⟩⟩
/-- The log has grown. -/
theorem RecsP.log {vl vl' : Value} {B B' : Nat} {w w' : World} {v : Value} {l : List UInt8} {bss : List (List UInt8)} (h : RecsP vl B w v bss) (hl : OwnB B' w vl l) (hg : w.grownBy w' vl.ownBlock) (hv : ∀ g, vl'.ownBlock = some g → vl.ownBlock = some g ∨ w.heap.size ≤ g) : RecsP vl' B w' v bss := by
  obtain ⟨vs, h1, h2, h3⟩ := h
  refine ⟨vs, h1.kept hg fun g hgv e => own_apart h1 hl g e hgv, h2, fun i u bs hu hb => ?_⟩
  obtain ⟨h4, h5⟩ := h3 i u bs hu hb
  refine ⟨h4.kept hg h5, fun g hgu e => ?_⟩
  rcases hv g e with h6 | h6
  · exact h5 g hgu h6
  · have := (h4.where g hgu).2; omega
/-- 'append(l, b)', b in a row that was just laid. -/
theorem wp_appP {ops : Array Oper} {rest : List Oper} {o : Oper} {a : Act} {w : World} {Q : Exit → Act → World → Prop} (s x : Operand) (ho : o.op = .call { callee := .builtin .append, args := #[s, x], argTypes := #[25, 25] }) (hw : Region.wanted o (yielded ops a.tmps) = true)
    {vl : Value} {B : Nat} {v u : Value} {bss : List (List UInt8)} {bs : List UInt8} (hs : a.eval s = v) (h : RecsP vl B w v bss) (hu : OwnB B w u bs) (hul : ∀ g, u.ownBlock = some g → vl.ownBlock ≠ some g) (H : Nat) (hx : a.eval x = .slice (some ⟨H, 0, none⟩) 1 1) (hH : w.heap.size = H) (hlen : bss.length ≤ 1000000000000) (hB : B ≤ w.heap.size)
    (hk : ∀ v' w', RecsP vl B w' v' (bss ++ [bs]) → Below B w w' → (∀ B' y l, OwnB B' w y l → OwnB B' w' y l) → wpList Tryd.prog ops Q rest (a.put o.dst v') w') : wpList Tryd.prog ops Q (o :: rest) a (w.alloc (.cells #[u] 23)) := by
  refine wpList_step fun K hK => ?_
  rw [if_pos hw]
  subst hH
  obtain ⟨vs, h1, h2, h3⟩ := h
  have hal : Below w.heap.size w (w.alloc (.cells #[u] 23)) := (Below.refl _ w).alloc (Nat.le_refl _) _
  have hown : (w.alloc (.cells #[u] 23)).ownsRow 0 23 1 v vs.length vs := (h1.below hal).base (Nat.zero_le _)
  have hone : u.oneCell' = true := by
    obtain ⟨a, len, cap, rfl, -⟩ := hu.form; rfl
  have hcell : ∀ j x, [u][j]? = some x → (w.alloc (.cells #[u] 23)).cell? ((⟨w.heap.size, 0, none⟩ : Addr).add j) = some x := fun j x hj => by
    rw [add_at, Nat.zero_add]
    unfold World.cell?
    rw [heap_alloc_new]
    simpa using hj
  obtain ⟨v', w', g0, g1, g2, g3⟩ := run_appG (ty := o.type) elemK_bs hown ⟨w.heap.size, 0, none⟩ 1 1 [u] rfl hcell (by simpa using hone) (by unfold maxLen; omega) (by omega)
  have hwh : ∀ g, v.ownBlock = some g → B ≤ g ∧ g < w.heap.size := fun g hg => h1.where g hg
  have hkeep : ∀ B' y l, OwnB B' w y l → OwnB B' w' y l := fun B' y l hy => (hy.below hal).kept g2 (own_apart h1 hy)
  have hbel : Below B w w' := (hal.mono hB).grown g2 (by rw [World.size_alloc]; omega) fun k hk => (hwh k hk).1
  unfold Oper.wp execOp
  simp only [ho, resolve, invoke, builtin, Sem.run_bind, Sem.run_pure, Result.andThen_ok, List.map_toArray, List.map_cons, List.map_nil, hs, hx, g0]
  refine hK _ _ (hk v' w' ⟨vs ++ [u], ?_, by simp [h2], ?_⟩ hbel hkeep)
  · have g1' : OwnV 23 0 w' v' (vs ++ [u]) := by unfold OwnV; rw [List.length_append]; exact g1
    refine g1'.rebase fun g hg => ?_
    rcases g3 g hg with h5 | h5
    · exact (hwh g h5).1
    · have := hal.size; omega
  · intro i x y hx hy
    rcases Nat.lt_or_ge i vs.length with hi | hi
    · rw [List.getElem?_append_left hi] at hx
      rw [List.getElem?_append_left (by omega)] at hy
      exact ⟨hkeep _ _ _ (h3 i x y hx hy).1, (h3 i x y hx hy).2⟩
    · rw [List.getElem?_append_right hi] at hx
      rw [List.getElem?_append_right (by omega), ← h2] at hy
      obtain ⟨h0, e⟩ := List.getElem?_eq_some_iff.1 hx
      have h0' : i - vs.length = 0 := by simpa using h0
      rw [h0'] at hx hy
      simp at hx hy
      subst hx hy
      exact ⟨hkeep _ _ _ hu, hul⟩
end Go.Proofs.YtdnohjhknhekhaaDoor
